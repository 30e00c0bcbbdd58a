/-
 differs and suits of the program's sink. The conditions: that the sink and the transaction's lists lie there; that the transaction may be.
-/
import Derived.Test.YtboofnkajjnmeaaSkk
import Derived.Sort.QuietLawsIn
import Derived.Sort.CutIn
import Derived.Maps.OwnIn
namespace Go.Proofs.Ytboofnkajjnmeaa
open Go.RowKit Go.Shelf
attribute [local go_sem] Oper.semAt_some

theorem opIn_round {F : Fence} {n : Nat} {P : Program} {o : Oper} {a : Act} {w : World} {K : Act → World → Prop} {Q : Exit → Act → World → Prop} {l : Nat} (hd : ∀ c, o.op ≠ .defer c) (h : o.wpIn F n P a w K Q) : o.wpIn (F.inRound l) n P a w K Q := by
 unfold Oper.wpIn at h ⊢
 rw [Oper.semAt_eq _ _ _ hd] at h ⊢
 exact h
theorem anyIn_round {F : Fence} {n : Nat} {P : Program} {md : Region.Mode} {ops : Array Oper} {Q : Exit → Act → World → Prop} {l : Nat} (hd : ∀ (i : Nat) (o : Oper), ops[i]? = some o → ∀ c, o.op ≠ .defer c) :
  ∀ (fuel : Nat) (listed : Array Bool) (a : Act) (w : World), wpAnyIn F n P md ops Q fuel listed a w → wpAnyIn (F.inRound l) n P md ops Q fuel listed a w
 | 0, _, _, _, h => h
 | fuel + 1, listed, a, w, h => by
  refine ⟨h.1, fun i hi => ?_⟩
  have h2 := wpOpIn_mono (fun a w h => anyIn_round (l := l) hd fuel _ a w h) (h.2 i hi)
  unfold wpOpIn at h2 ⊢
  cases ho : ops[i]? with
  | none => rw [ho] at h2; exact h2
  | some o =>
   rw [ho] at h2
   simp only at h2 ⊢
   by_cases hw : Region.wanted o (yielded ops a.tmps) = true
   ·rw [if_pos hw] at h2 ⊢
    exact opIn_round (hd i o ho) h2
   ·rw [if_neg hw] at h2 ⊢
    exact h2
def noDefer (ops : Array Oper) : Bool := ops.toList.all fun o => match o.op with | .defer _ => false | _ => true
theorem noDefer_at {ops : Array Oper} (h : noDefer ops = true) (i : Nat) (o : Oper) (ho : ops[i]? = some o) (c : Call) : o.op ≠ .defer c := by
 intro e
 have hm : o ∈ ops.toList := by rw [← Array.getElem?_toList] at ho; exact List.mem_of_getElem? ho
 have h2 := List.all_eq_true.1 h o hm
 rw [e] at h2
 simp at h2

theorem run_loadVar_cell {P : Program} (w : World) (g : Nat) (ty : TypeId) (v : Value) (d : TypeDesc) (hg : w.cell? ⟨g, 0, none⟩ = some v) (hu : P.underlying ty = some d) (hd : (match d with | .struct _ | .array _ _ => true | _ => false) = false) :
  (loadVar ty ⟨g, 0, none⟩).run P w = .ok v w := by
 have h1 : (isAgg ty).run P w = .ok false w := by
  unfold isAgg
  rw [Sem.run_bind, run_underlying hu w]
  cases d <;> simp_all
 simp [loadVar, h1, go_sem, hg]
theorem results_cell_val {P : Program} {fn : Func} {p : Tmp} {ty : TypeId} (h : fn.results = #[.cell p ty]) (tmps : Array Value) (w : World) (g : Nat) (v : Value) (d : TypeDesc)
  (hp : tmps.getD p undef = .pointer (some ⟨g, 0, none⟩)) (hg : w.cell? ⟨g, 0, none⟩ = some v) (hd : P.underlying ty = some d) (h1 : (match d with | .struct _ | .array _ _ => true | _ => false) = false) :
  (results fn tmps).run P w = .ok v w := by
 have hp' : tmps[p]?.getD undef = .pointer (some ⟨g, 0, none⟩) := by simpa using hp
 have hl1 := run_loadVar_cell (P := P) w g ty v d hg hd h1
 simp only [results, h]
 simp [hp', asAddr, hl1]
theorem region_round {n : Nat} {P : Program} {id lk : Nat} {l : List Oper} {Q : Exit → Act → World → Prop} {a : Act} {w : World} (C : World → Prop) (hm : P.follows .mixedOrders = true) (hB : Region.lexB .any l.toArray = true) (hd : noDefer l.toArray = true) (hC : C w.drew)
  (h : wpQuietIn Fence.wide n P l.toArray C (fun a' => ∀ w', C w' → Q .normal a' w') l a) : (Code.region id l.toArray true).wpIn (Fence.wide.inRound lk) n P Q a w := by
 simp only [Region.lexB, Bool.and_eq_true] at hB
 refine wpIn_region_any hm (anyIn_round (F := Fence.wide) (noDefer_at hd) _ _ _ _ (wpAnyIn_of_quiet (Q := fun a' => ∀ w', C w' → Q .normal a' w') rfl (fun _ w' hw' h => h w' hw') _ _ _ _ hC ?_))
 have := wpAnyQIn_lex (F := Fence.wide) (n := n) (C := C) (md := .any) hB.1 l 0 (Array.replicate l.toArray.size false) a (by simp) (by simpa using hB.2) h
 simpa using this
def aggC : Value → Array Value
 | .agg a => a
 | _ => #[]
def DfI (V : World) (rB : Nat) (rs es : List RC) : Jt := fun S k X => Boxed X rB 4 (.bool false) ∧ ¬ S rB ∧ (k ≤ es.length ∧ rs.take k = es.take k) ∧ Only (· = rB) V X ∧ ∀ i, S i → V.heap.size ≤ i
def DfX (V : World) (rB : Nat) (rs es : List RC) : Jt := fun S _ X => Boxed X rB 4 (.bool true) ∧ ¬ S rB ∧ rs.take es.length ≠ es ∧ Only (· = rB) V X ∧ ∀ i, S i → V.heap.size ≤ i
theorem DfI.rob (V : World) (rB : Nat) (rs es : List RC) : Robust (DfI V rB rs es) := by
 rintro S k X X' ⟨h1, h2, h3, h4, h5⟩ ho
 exact ⟨ho.obj h1 h2, h2, h3, h4.step ho (fun i h => .inr (h5 i h)), h5⟩
theorem DfI.grw (V : World) (rB : Nat) (rs es : List RC) : Grows (DfI V rB rs es) := by
 rintro S S' k X X' ⟨h1, h2, h3, h4, h5⟩ hb hs
 have hz := h4.size
 refine ⟨below_box hb h1, fun h => ?_, h3, h4.trans (Only.fresh hb _), fun i h => ?_⟩
 ·have := (Array.getElem?_eq_some_iff.1 (show X.heap[rB]? = _ from h1)).1
  rcases hs _ h with h | h
  ·exact h2 h
  ·omega
 ·rcases hs _ h with h | h
  ·exact h5 i h
  ·omega
theorem DfX.rob (V : World) (rB : Nat) (rs es : List RC) : Robust (DfX V rB rs es) := by
 rintro S k X X' ⟨h1, h2, h3, h4, h5⟩ ho
 exact ⟨ho.obj h1 h2, h2, h3, h4.step ho (fun i h => .inr (h5 i h)), h5⟩
theorem DfX.grw (V : World) (rB : Nat) (rs es : List RC) : Grows (DfX V rB rs es) := by
 rintro S S' k X X' ⟨h1, h2, h3, h4, h5⟩ hb hs
 have hz := h4.size
 refine ⟨below_box hb h1, fun h => ?_, h3, h4.trans (Only.fresh hb _), fun i h => ?_⟩
 ·have := (Array.getElem?_eq_some_iff.1 (show X.heap[rB]? = _ from h1)).1
  rcases hs _ h with h | h
  ·exact h2 h
  ·omega
 ·rcases hs _ h with h | h
  ·exact h5 i h
  ·omega
set_option maxRecDepth 100000 in
set_option maxHeartbeats 8000000 in
theorem differs_in (n : Nat) (hn : 5 ≤ n) {B : Nat} {W : World} {k : PK} {ep id : Int} {rp vp : Option Addr} {rn rc vn vc j : Nat} {rs : List RC} (h : PS B W k) (hr : RRow W rp rc rs) (hrn : rs.length = rn) (hj : j ≤ k.out.length) (hl : k.out.length ≤ j + rn) (hb : rn ≤ 4096) {rb : Bool} (hrb : decide (rs.take (k.out.drop j).length ≠ k.out.drop j) = rb) :
  CallsIn Fence.wide n Try.prog 76 #[.pointer (some ⟨k.b, 0, none⟩), .agg #[.int .i64 ep, .int .i64 id, .int .i64 (j : Int), .slice rp rn rc, .slice vp vn vc]] W fun e w' => e = .returned (.bool rb) ∧ Below W.heap.size W w' := by
 have HPW := hide h; have HRW := hide hr; have HRN := hide hrn; have HRB := hide hrb; have HJ := hide hj; have HL := hide hl
 have ho4 : k.out.length ≤ 4096 := h.ok.out
 clear h hr hrn hrb hj hl
 refine callsIn_of_wp_marks Try.func76 rfl trivial ?_ rfl
 simp only [Try.ntmps76, List.size_toArray, List.length_cons, List.length_nil, Nat.reduceAdd, Nat.reduceSub, Array.replicate_succ, Array.replicate_zero, List.push_toArray, List.append_toArray, List.nil_append, List.cons_append]
 obtain ⟨U0, hU0⟩ : ∃ U0, U0 = W.alloc (.cells #[.int .i64 ep, .int .i64 id, .int .i64 (j : Int), .slice rp rn rc, .slice vp vn vc] 34 (0, 0)) := ⟨_, rfl⟩
 have HT : Hid (U0.heap[W.heap.size]? = some (.cells #[.int .i64 ep, .int .i64 id, .int .i64 (j : Int), .slice rp rn rc, .slice vp vn vc] 34 (0, 0))) := hide (by rw [hU0]; exact heap_alloc_new W _)
 have HBT : Hid (Below W.heap.size W U0) := hide (by rw [hU0]; exact alloc_below _ _)
 obtain ⟨tB, htB⟩ : ∃ tB, W.heap.size = tB := ⟨_, rfl⟩
 rw [htB] at HT HBT
 have HZtB := hide htB
 obtain ⟨U, hU⟩ : ∃ U, U = U0.alloc (.cells #[.bool false] 4 (0, 0)) := ⟨_, rfl⟩
 have b1 : Below U0.heap.size U0 U := by rw [hU]; exact alloc_below _ _
 have hrbx : U.heap[U0.heap.size]? = some (.cells #[.bool false] 4 (0, 0)) := by rw [hU]; exact heap_alloc_new U0 _
 obtain ⟨rB, hrB⟩ : ∃ rB, U0.heap.size = rB := ⟨_, rfl⟩
 rw [hrB] at hrbx
 have hs0 : U0.heap.size = tB + 1 := by rw [hU0, ← htB]; simp
 have hrt : tB + 1 = rB := by omega
 have HTB := hide (below_box b1 HT.out)
 have HUB : Hid (Below W.heap.size W U) := hide (by rw [htB]; exact below_next HBT.out b1 (by omega))
 have HRBX := hide hrbx
 have hUs : U.heap.size = rB + 1 := by rw [hU]; simp [hrB]
 have HSZ0 : Hid (W.heap.size = tB ∧ tB + 1 = rB ∧ U.heap.size = rB + 1) := hide ⟨htB, hrt, hUs⟩
 clear HT HBT b1 hrbx; have hff := cellB HTB.out (i := 2) rfl
 gi_upto_region 1 with fail
 try rw [htB]
 try rw [hrt]
 rw [← hU0, ← hU]
 try rw [hrB]
 try rw [hrt]
 clear hU0 hU htB hrB hs0 hrt hUs HZtB
 gi_wp2_with fail
 refine ⟨trivial, fun _ => by omega, (callsIn_wide.2 (tell_any (HPW.out.later HUB.out) HJ.out)).mono ?_⟩
 intro e V ht
 obtain ⟨kb, fb, p', c', rfl, K1, K2, K3, K4, B1⟩ := ht
 obtain ⟨es, hes⟩ : ∃ es, k.out.drop j = es := ⟨_, rfl⟩
 obtain ⟨L, hL⟩ : ∃ L, es.length = L := ⟨_, rfl⟩
 have hLn : L ≤ rn := by rw [← hL, ← hes, List.length_drop]; have := HL.out; omega
 have hLj : j + L ≤ 1048576 := by rw [← hL, ← hes, List.length_drop]; have := HJ.out; omega
 rw [hes] at K1
 rw [hL] at K1
 have HRB2 : Hid (decide (rs.take L ≠ es) = rb) := hide (by rw [← HRB.out, hes, hL])
 have HVB : Hid (Below W.heap.size W V) := hide (HUB.out.trans (B1.mono HUB.out.size))
 have HBR := hide (below_box B1 HRBX.out); have HTV := hide (below_box B1 HTB.out); have HK1 := hide K1
 have HK4 : Hid (∀ a, p' = some a → a.block < tB) := hide (fun a ha => by have := (HPW.out.lt (.inr (.inr (.inl (K4 a ha))))).2; have := HSZ0.out; omega)
 have HKB : Hid (rB + 1 ≤ kb ∧ rB + 1 ≤ fb ∧ rB < V.heap.size ∧ tB + 1 = rB ∧ W.heap.size = tB) := hide ⟨by have := HSZ0.out; omega, by have := HSZ0.out; omega, by have := B1.size; have := HSZ0.out; omega, HSZ0.out.2.1, HSZ0.out.1⟩
 have HTL := hide (tellR_len j es); have HLL := hide hL; clear hes K1 K2 K3 K4 B1 HRB HUB HRBX HTB HSZ0 hff
 gi_wp2_with fail
 refine range_listS (by omega) (tell_tells (n - 1) (by omega) (kb := kb) (fb := fb) (j := j) (cap := c') (p := p') HLL.out hLj) rfl enTell ?size (DfI V rB rs es) (fun c S k X => c = .ret ∧ DfX V rB rs es S k X) ?rob ?grw ?xrob ?xgrw ?puts ?xputs ?reads ?start
  (fun x X => { tmps := #[.pointer (some ⟨k.b, 0, none⟩), .agg #[.int .i64 ep, .int .i64 id, .int .i64 (j : Int), .slice rp rn rc, .slice vp vn vc], undef, .pointer (some ⟨tB, 0, none⟩), .pointer (some ⟨rB, 0, none⟩), x.getD 0 undef, .pointer (some ⟨X.heap.size, 0, none⟩), .pointer (some ⟨k.b, 0, none⟩), .pointer (some ⟨tB, 2, none⟩), .int .i64 (j : Int), .func (.func 82) #[] #[.pointer (some ⟨kb, 0, none⟩), .pointer (some ⟨fb, 0, none⟩)], x.getD 0 undef, x.getD 1 undef, undef, undef, undef, undef, undef, undef, undef, undef, undef, undef], defers := [] }) (fun x X => X.alloc (.cells (aggC (x.getD 1 undef)) 49 (0, 0))) (fun k X => alloc_below X _) ?assign ?body ?done ?stop
 case size =>
  intro m hm
  rw [HTL.out] at hm
  rw [tellR_get hm rfl]
  rfl
 case rob => exact DfI.rob V rB rs es
 case grw => exact DfI.grw V rB rs es
 case xrob => exact fun c S m X X' h ho => ⟨h.1, DfX.rob V rB rs es S m X X' h.2 ho⟩
 case xgrw => exact fun c S S' m X X' h hb hs => ⟨h.1, DfX.grw V rB rs es S S' m X X' h.2 hb hs⟩
 case puts =>
  rintro S m X o' ⟨h1, h2, h3, h4, h5⟩
  exact ⟨put_onlyS.obj h1 (fun e => by have e' : rB = V.heap.size + 1 := e; have := HKB.out; omega), h2, h3, h4.step put_onlyS (fun i e => .inr (by have e' : i = V.heap.size + 1 := e; omega)), h5⟩
 case xputs =>
  rintro c S m X o' ⟨h0, h1, h2, h3, h4, h5⟩
  exact ⟨h0, put_onlyS.obj h1 (fun e => by have e' : rB = V.heap.size + 1 := e; have := HKB.out; omega), h2, h3, h4.step put_onlyS (fun i e => .inr (by have e' : i = V.heap.size + 1 := e; omega)), h5⟩
 case reads =>
  rintro S m X ⟨_, _, _, h5, _⟩
  exact HK1.out.only h5 (fun e => by have e' : kb = rB := e; have := HKB.out; omega) (fun e => by have e' : fb = rB := e; have := HKB.out; omega) (fun a ha e => by have := HK4.out a ha; have e' : a.block = rB := e; have := HKB.out; omega)
 case start =>
  intro r
  have hb2 : Below V.heap.size V ((V.alloc (.deferred (some []))).alloc (.loop r)) := (alloc_below V _).trans ((alloc_below _ _).mono (by simp))
  exact ⟨below_box hb2 HBR.out, fun e => e, ⟨Nat.zero_le _, rfl⟩, Only.fresh hb2 _, fun i e => e.elim⟩
 case assign =>
  intro l' m X K hm hK
  rw [HTL.out] at hm
  obtain ⟨e, he⟩ : ∃ e, es[m]! = e := ⟨_, rfl⟩
  rw [tellR_get hm he] at hK ⊢
  obtain ⟨ky, vl⟩ := e
  simp only [aggC, Array.getD_eq_getD_getElem?, List.getElem?_toArray, List.getElem?_cons_zero, List.getElem?_cons_succ, Option.getD_some] at hK
  clear he
  gi_wp2
  exact hK
 case body =>
  rintro l' m S Z X hI hm hsz hoX hS0 hS1 hS2
  rw [HTL.out] at hm
  have hmL : m < L := by rw [← HLL.out]; exact hm
  obtain ⟨e, he⟩ : ∃ e, es[m]! = e := ⟨_, rfl⟩
  have hmr : m < rs.length := by rw [HRN.out]; omega
  obtain ⟨f, hf⟩ : ∃ f, rs[m]! = f := ⟨_, rfl⟩
  rw [tellR_get hm he] at hoX ⊢
  obtain ⟨h1, h2, ⟨h3, h3'⟩, h4, h5⟩ := hI
  have hzx := hoX.size; have HTS := hide (take_same h3' hmr hm hf he)
  obtain ⟨ky, vl⟩ := e
  obtain ⟨a0, a1⟩ := f
  simp only [aggC, Array.getD_eq_getD_getElem?, List.getElem?_toArray, List.getElem?_cons_zero, List.getElem?_cons_succ, Option.getD_some] at hoX ⊢
  have hpb : X.heap[Z.heap.size]? = some (.cells #[.int .i64 ky, .int .i64 vl] 49 (0, 0)) := hoX.obj (heap_alloc_new Z _) (fun e => by have e' : Z.heap.size = V.heap.size + 1 := e; omega)
  have x0 := cellB hpb (i := 0) rfl; have x1 := cellB hpb (i := 1) rfl
  have htX := h4.obj HTV.out (fun e => by have e' : tB = rB := e; have := HKB.out; omega)
  have t2 := cellB htX (i := 2) rfl; have t3 := cellB htX (i := 3) rfl
  have hrX : RRow X rp rc rs := (HRW.out.later HVB.out).only h4 (fun a ha e => by
    have e' : a.block = rB := e
    obtain ⟨g, o_, ep_, hc⟩ := HRW.out.cell m hmr
    rw [ha] at ep_
    simp only [Option.some.injEq] at ep_
    have hc0 := hc 0 (by decide)
    rw [ep_] at e'
    obtain ⟨ob, hob, _⟩ := cells_of_cell (show W.cell? ⟨g, o_ + m * 2 + 0, none⟩ = some (.int .i64 (rs[m]!).key) from hc0)
    have h9 : g < W.heap.size := (Array.getElem?_eq_some_iff.1 hob).1
    have := HKB.out
    simp only at e'
    omega)
  obtain ⟨g, o_, rfl, r0, r1⟩ := RRow.at hrX hmr hf
  simp only at r0 r1
  have i1 : (0 : Int) ≤ (m : Int) := by omega
  have i2 : (m : Int) < (rn : Int) := by omega
  have i3 := hrX.le; have i4 := hrX.top
  rw [HRN.out] at i3
  have qw : IntKind.i64.wrap ((j : Int) + (m : Int) - (j : Int)) = (m : Int) := by rw [IntKind.wrap_i64]; omega
  have qw2 : IntKind.i64.wrap (m : Int) = (m : Int) := by rw [IntKind.wrap_i64]; omega
  have HH1 := hide h1; have HH2 := hide h2; have HH3 := hide h3'; have HH4 := hide h4; have HH5 := hide h5; have HHS := hide hS2; have HHE := hide he; have HHF := hide hf
  have HHZ : Hid (V.heap.size + 1 < X.heap.size) := hide (by
    rw [World.size_alloc] at hzx
    omega)
  clear h1 h2 h3' h4 h5 hS2 he hf hoX hpb htX hrX hzx
  by_cases hc : a0 = ky ∧ a1 = vl
  ·obtain ⟨rfl, rfl⟩ := hc
   have HT2 := hide (HTS.out.2 rfl)
   gi_wp2_with fail
   refine region_round (fun Y => Below X.heap.size X Y) (by kernel_rfl) (by kernel_rfl) (by kernel_rfl) (Below.refl _ X).drew ?_
   repeat
    first
     | (refine BigFrame.wpQuietIn_want (BigFrame.askedIn_plain (fun _ h => nomatch h)) (by rfl) (fun K hK => ?_)
        unfold Oper.quietIn
        apply Exists.intro
        refine ⟨fun Y hY => ?_, hK _ ?_⟩
        · unfold Oper.quietAtIn
          have l2 := cell_later hY t2
          have l3 := cell_later hY t3
          have l4 := cell_later hY x0
          have l5 := cell_later hY x1
          have l6 := cell_later hY r0
          have l7 := cell_later hY r1
          first
           | (go_simp; done)
           | (go_simp; exact ⟨rfl, hY⟩)
           | (go_simp; exact rfl)
        clear hK K
        simp only [Act.put, List.setIfInBounds_toArray, List.set_cons_zero, List.set_cons_succ])
   refine wpQuietIn_nil (fun Y hY => ?_)
   have HKP : Hid (Kept (fun i => S i ∨ i = V.heap.size ∨ i = V.heap.size + 1) X Y) := hide (fun i hi => hY.block i (by
     rcases hi with h | h | h
     · exact HHS.out i h
     · have := HHZ.out; omega
     · have := HHZ.out; omega))
   have HSZ : Hid (X.heap.size ≤ Y.heap.size) := hide hY.size
   have HX : Hid (DfI V rB rs es S (m + 1) Y) := hide ⟨below_box hY HH1.out, HH2.out, ⟨hm, HT2.out⟩, HH4.out.trans (Only.fresh hY _), HH5.out⟩
   clear hY t2 t3 x0 x1 r0 r1
   gi_wp2
   exact ⟨HKP.out, HSZ.out, HX.out⟩
  ·have HNE : Hid (rs.take es.length ≠ es) := hide (fun h9 => hc (by
     have e1 : (rs.take es.length)[m]! = es[m]! := by rw [h9]
     rw [HHE.out, getElem!_pos _ m (by rw [List.length_take]; have := HLL.out; omega), List.getElem_take, ← getElem!_pos rs m hmr, HHF.out] at e1
     simpa using e1))
   by_cases h0 : a0 = ky
   ·obtain rfl := h0
    have q1 := ne_eq (fun h : a1 = vl => hc ⟨rfl, h⟩); clear hc
    gi_wp2_with fail
    refine region_round (fun Y => Below X.heap.size X Y) (by kernel_rfl) (by kernel_rfl) (by kernel_rfl) (Below.refl _ X).drew ?_
    repeat
     first
      | (refine BigFrame.wpQuietIn_want (BigFrame.askedIn_plain (fun _ h => nomatch h)) (by rfl) (fun K hK => ?_)
         unfold Oper.quietIn
         apply Exists.intro
         refine ⟨fun Y hY => ?_, hK _ ?_⟩
         · unfold Oper.quietAtIn
           have l2 := cell_later hY t2
           have l3 := cell_later hY t3
           have l4 := cell_later hY x0
           have l5 := cell_later hY x1
           have l6 := cell_later hY r0
           have l7 := cell_later hY r1
           first
            | (go_simp; done)
            | (go_simp; exact ⟨rfl, hY⟩)
            | (go_simp; exact rfl)
         clear hK K
         simp only [Act.put, List.setIfInBounds_toArray, List.set_cons_zero, List.set_cons_succ])
    refine wpQuietIn_nil (fun Y hY => ?_)
    have hbY : Boxed Y rB 4 (.bool false) := below_box hY HH1.out
    have cr := hbY.cell; have cf := hbY.frozen
    have hoF : Only (· = rB) Y (Y.setCell ⟨rB, 0, none⟩ (.bool true)) := Only.set (F := (· = rB)) Y rB 0 _ rfl
    have HKP : Hid (Kept (fun i => S i ∨ i = V.heap.size ∨ i = V.heap.size + 1) X (Y.setCell ⟨rB, 0, none⟩ (.bool true))) := hide (fun i hi => by
      have hlt : i < X.heap.size := by
        rcases hi with h | h | h
        · exact HHS.out i h
        · have := HHZ.out; omega
        · have := HHZ.out; omega
      rw [hoF.block i (Nat.lt_of_lt_of_le hlt hY.size) (fun e => by
        have e' : i = rB := e
        rcases hi with h | h | h
        · exact HH2.out (by rw [← e']; exact h)
        · have := HKB.out; omega
        · have := HKB.out; omega)]
      exact hY.block i hlt)
    have HSZ : Hid (X.heap.size ≤ (Y.setCell ⟨rB, 0, none⟩ (.bool true)).heap.size) := hide (Nat.le_trans hY.size hoF.size)
    have HX : Hid (DfX V rB rs es S (m + 1) (Y.setCell ⟨rB, 0, none⟩ (.bool true))) := hide ⟨hbY.set _, HH2.out, HNE.out, (HH4.out.trans (Only.fresh hY _)).trans hoF, HH5.out⟩
    clear hY t2 t3 x0 x1 r0 r1 hbY hoF
    gi_wp2
    exact ⟨HKP.out, HSZ.out, rfl, HX.out⟩
   ·have q1 := ne_eq h0; clear hc h0
    gi_wp2_with fail
    refine region_round (fun Y => Below X.heap.size X Y) (by kernel_rfl) (by kernel_rfl) (by kernel_rfl) (Below.refl _ X).drew ?_
    repeat
     first
      | (refine BigFrame.wpQuietIn_want (BigFrame.askedIn_plain (fun _ h => nomatch h)) (by rfl) (fun K hK => ?_)
         unfold Oper.quietIn
         apply Exists.intro
         refine ⟨fun Y hY => ?_, hK _ ?_⟩
         · unfold Oper.quietAtIn
           have l2 := cell_later hY t2
           have l3 := cell_later hY t3
           have l4 := cell_later hY x0
           have l5 := cell_later hY x1
           have l6 := cell_later hY r0
           have l7 := cell_later hY r1
           first
            | (go_simp; done)
            | (go_simp; exact ⟨rfl, hY⟩)
            | (go_simp; exact rfl)
         clear hK K
         simp only [Act.put, List.setIfInBounds_toArray, List.set_cons_zero, List.set_cons_succ])
    refine wpQuietIn_nil (fun Y hY => ?_)
    have hbY : Boxed Y rB 4 (.bool false) := below_box hY HH1.out
    have cr := hbY.cell; have cf := hbY.frozen
    have hoF : Only (· = rB) Y (Y.setCell ⟨rB, 0, none⟩ (.bool true)) := Only.set (F := (· = rB)) Y rB 0 _ rfl
    have HKP : Hid (Kept (fun i => S i ∨ i = V.heap.size ∨ i = V.heap.size + 1) X (Y.setCell ⟨rB, 0, none⟩ (.bool true))) := hide (fun i hi => by
      have hlt : i < X.heap.size := by
        rcases hi with h | h | h
        · exact HHS.out i h
        · have := HHZ.out; omega
        · have := HHZ.out; omega
      rw [hoF.block i (Nat.lt_of_lt_of_le hlt hY.size) (fun e => by
        have e' : i = rB := e
        rcases hi with h | h | h
        · exact HH2.out (by rw [← e']; exact h)
        · have := HKB.out; omega
        · have := HKB.out; omega)]
      exact hY.block i hlt)
    have HSZ : Hid (X.heap.size ≤ (Y.setCell ⟨rB, 0, none⟩ (.bool true)).heap.size) := hide (Nat.le_trans hY.size hoF.size)
    have HX : Hid (DfX V rB rs es S (m + 1) (Y.setCell ⟨rB, 0, none⟩ (.bool true))) := hide ⟨hbY.set _, HH2.out, HNE.out, (HH4.out.trans (Only.fresh hY _)).trans hoF, HH5.out⟩
    clear hY t2 t3 x0 x1 r0 r1 hbY hoF
    gi_wp2
    exact ⟨HKP.out, HSZ.out, rfl, HX.out⟩
 case done =>
  rintro D S X hD hI hK
  rw [HTL.out] at hI
  obtain ⟨h1, h2, ⟨h3, h3'⟩, h4, h5⟩ := hI
  have HF : Hid (rb = false) := hide (by
    rw [← HRB2.out]
    refine decide_eq_false (fun h9 => h9 ?_)
    rw [← HLL.out, h3', List.take_length])
  have cr := h1.cell; have cf := h1.frozen
  have hoF : Only (· = rB) X (X.setCell ⟨rB, 0, none⟩ (.bool false)) := Only.set (F := (· = rB)) X rB 0 _ rfl
  have hbx : Boxed (X.setCell ⟨rB, 0, none⟩ (.bool false)) rB 4 (.bool false) := h1.set _
  have HBX := hide hbx
  have HK := hide (hoF.obj hK (fun e => by have e' : D = rB := e; have := HKB.out; omega))
  have HB : Hid (Below W.heap.size W (X.setCell ⟨rB, 0, none⟩ (.bool false))) := hide (HVB.out.trans ((h4.trans hoF).below HVB.out.size (fun i e => by have e' : i = rB := e; have := HKB.out; omega)))
  clear h1 h2 h3 h3' h4 h5 hK hoF hbx
  gi_wp2
  refine ⟨by simp, .inl ⟨_, _, rfl, run_takeDeferred HK.out, ?_⟩⟩
  have hbp : Boxed ((X.setCell ⟨rB, 0, none⟩ (.bool false)).putObj D (.deferred none)) rB 4 (.bool false) := put_onlyS.obj HBX.out (fun e => by have e' : rB = D := e; have := HKB.out; omega)
  refine ⟨_, results_cell_val rfl _ _ rB _ _ rfl hbp.cell Try.underlying4 rfl, by rw [HF.out], ?_⟩
  exact HB.out.trans (put_onlyS.below HB.out.size (fun i e => by have e' : i = D := e; have := HVB.out.size; omega))
 case stop =>
  rintro D c S m X hD hm ⟨rfl, h1, h2, h3, h4, h5⟩ hK
  have HF : Hid (rb = true) := hide (by rw [← HRB2.out, ← HLL.out]; exact decide_eq_true h3)
  have HBX := hide h1; have HK := hide hK
  have HB : Hid (Below W.heap.size W X) := hide (HVB.out.trans (h4.below HVB.out.size (fun i e => by have e' : i = rB := e; have := HKB.out; omega)))
  clear h1 h2 h3 h4 h5 hK
  gi_wp2
  refine ⟨by simp, .inl ⟨_, _, rfl, run_takeDeferred HK.out, ?_⟩⟩
  have hbp : Boxed (X.putObj D (.deferred none)) rB 4 (.bool true) := put_onlyS.obj HBX.out (fun e => by have e' : rB = D := e; have := HKB.out; omega)
  refine ⟨_, results_cell_val rfl _ _ rB _ _ rfl hbp.cell Try.underlying4 rfl, by rw [HF.out], ?_⟩
  exact HB.out.trans (put_onlyS.below HB.out.size (fun i e => by have e' : i = D := e; have := HVB.out.size; omega))
theorem differs_any {B : Nat} {W : World} {k : PK} {ep id : Int} {rp vp : Option Addr} {rn rc vn vc j : Nat} {rs : List RC} (h : PS B W k) (hr : RRow W rp rc rs) (hrn : rs.length = rn) (hj : j ≤ k.out.length) (hl : k.out.length ≤ j + rn) (hb : rn ≤ 4096) {rb : Bool} (hrb : decide (rs.take (k.out.drop j).length ≠ k.out.drop j) = rb) :
  Calls Try.prog 76 #[.pointer (some ⟨k.b, 0, none⟩), .agg #[.int .i64 ep, .int .i64 id, .int .i64 (j : Int), .slice rp rn rc, .slice vp vn vc]] W fun e w' => e = .returned (.bool rb) ∧ Below W.heap.size W w' :=
 callsIn_wide.1 (differs_in 5 (Nat.le_refl _) h hr hrn hj hl hb hrb)
theorem suit_gap {s : SK} {t : TX} (h : (s.out.length : Int) < t.beg) : suitC s t = 151 := if_pos h
theorem suit_ab {s : SK} {t : TX} (h : ¬ (s.out.length : Int) < t.beg) (h2 : aboveC t.vs s.vec = false ∨ t.beg + t.rs.length < s.out.length) : suitC s t = 152 := by
 unfold suitC; rw [if_neg h, if_pos h2]
theorem suit_df {s : SK} {t : TX} (h : ¬ (s.out.length : Int) < t.beg) (h2 : ¬ (aboveC t.vs s.vec = false ∨ t.beg + t.rs.length < s.out.length)) (h3 : sameC s t = false) : suitC s t = 153 := by
 unfold suitC; rw [if_neg h, if_neg h2, if_pos h3]
theorem suit_rm {s : SK} {t : TX} (h : ¬ (s.out.length : Int) < t.beg) (h2 : ¬ (aboveC t.vs s.vec = false ∨ t.beg + t.rs.length < s.out.length)) (h3 : ¬ sameC s t = false) (h4 : 4096 < t.beg + t.rs.length) : suitC s t = 30 := by
 unfold suitC; rw [if_neg h, if_neg h2, if_neg h3, if_pos h4]
theorem suit_ok {s : SK} {t : TX} (h : ¬ (s.out.length : Int) < t.beg) (h2 : ¬ (aboveC t.vs s.vec = false ∨ t.beg + t.rs.length < s.out.length)) (h3 : ¬ sameC s t = false) (h4 : ¬ 4096 < t.beg + t.rs.length) : suitC s t = 0 := by
 unfold suitC; rw [if_neg h, if_neg h2, if_neg h3, if_neg h4]
attribute [local irreducible] wpQuiet in
set_option maxRecDepth 100000 in
set_option maxHeartbeats 8000000 in
theorem suits_nat {W : World} {B : Nat} {k : PK} {ep id : Int} {rp vp : Option Addr} {rn rc vn vc j : Nat} {rs : List RC} {vs : List Int} (h : PS B W k) (hr : RRow W rp rc rs) (hv : NRow W vp vc vs) (hrn : rs.length = rn) (hvn : vs.length = vn) (hj4 : j ≤ 4096) (hb : rn ≤ 4096) {q : Int} (hq : suitC k.sk ⟨ep, id, (j : Int), rs, vs⟩ = q) :
  Calls Try.prog 52 #[.pointer (some ⟨k.b, 0, none⟩), .agg #[.int .i64 ep, .int .i64 id, .int .i64 (j : Int), .slice rp rn rc, .slice vp vn vc]] W fun e w' => e = .returned (.int .i64 q) ∧ Below W.heap.size W w' := by
 by_cases cg : k.out.length < j
 ·
  have HQ : Hid (q = 151) := hide (by
    rw [← hq]
    exact suit_gap (show (k.out.length : Int) < (j : Int) by omega))
  have HP := hide h; have HR := hide hr; have HN := hide hv; have HRN := hide hrn; have HVN := hide hvn; have HB4 := hide hb
  have ho4 : k.out.length ≤ 4096 := h.ok.out
  have qw : IntKind.i64.wrap ((j : Int) + (rn : Int)) = (j : Int) + (rn : Int) := by rw [IntKind.wrap_i64]; omega
  have d1 : decide ((j : Int) > (k.out.length : Int)) = true := decide_eq_true (by omega)
  have d1b : decide (j > k.out.length) = true := decide_eq_true (by omega)
  obtain ⟨N, hN⟩ : ∃ N, k.out.length = N := ⟨_, rfl⟩
  have HNN := hide hN
  rw [hN] at d1 d1b
  have hlen := fun (X : World) (hX : Below W.heap.size W X) => len_any (HP.out.later hX)
  rw [hN] at hlen
  have HLEN := hide hlen; clear hlen hN ho4 h hr hv hrn hvn hb hj4 hq cg 
  obtain ⟨V, hV⟩ : ∃ V, V = W.alloc (.cells #[.int .i64 ep, .int .i64 id, .int .i64 (j : Int), .slice rp rn rc, .slice vp vn vc] 34 (0, 0)) := ⟨_, rfl⟩
  have HV : Hid (V.heap[W.heap.size]? = some (.cells #[.int .i64 ep, .int .i64 id, .int .i64 (j : Int), .slice rp rn rc, .slice vp vn vc] 34 (0, 0))) := hide (by rw [hV]; exact heap_alloc_new W _)
  have HBV : Hid (Below W.heap.size W V) := hide (by rw [hV]; exact alloc_below _ _)
  obtain ⟨bB, hbB⟩ : ∃ bB, W.heap.size = bB := ⟨_, rfl⟩
  rw [hbB] at HV HBV
  have HZbB := hide hbB
  go_enter Try.func52, Try.ntmps52
  go_upto_region 1 with fail
  rw [← hV]
  try rw [hbB]
  clear hV hbB; have u0 := cellB HV.out (i := 0) rfl; have u1 := cellB HV.out (i := 1) rfl; have u2 := cellB HV.out (i := 2) rfl; have u3 := cellB HV.out (i := 3) rfl; have u4 := cellB HV.out (i := 4) rfl
  have HBW : Hid (Below W.heap.size W V) := hide (by rw [HZbB.out]; exact HBV.out)
  go_upto_region 2 with fail
  refine region_class (fun X => Below V.heap.size V X) (by kernel_rfl) (by kernel_rfl) (Below.refl _ V).drew ?_
  repeat
   first
    | (refine BigFrame.wpQuiet_skip (by rfl) ?_
       simp only [Act.put, List.setIfInBounds_toArray, List.set_cons_zero, List.set_cons_succ])
    | (refine BigFrame.wpQuiet_want (by rfl) (fun K hK => ?_)
       unfold Oper.quiet
       apply Exists.intro
       refine ⟨fun X hX => ?_, hK _ ?_⟩
       · have hW := HBW.out.trans (hX.mono HBW.out.size)
         have l0 := cell_later hX u0
         have l1 := cell_later hX u1
         have l2 := cell_later hX u2
         have l3 := cell_later hX u3
         have l4 := cell_later hX u4
         first
          | (go_simp; done)
          | (go_simp; exact rfl)
          | (go_simp
             first
             | (go_at_call 29; refine (HLEN.out _ hW).mono ?_; rintro e w3 ⟨rfl, rfl⟩; exact ⟨rfl, hX⟩)
            )
       clear hK K
       simp only [Act.put, List.setIfInBounds_toArray, List.set_cons_zero, List.set_cons_succ])
  refine wpQuiet_nil (fun X hX => ?_)
  have HBW2 := hide (HBW.out.trans (hX.mono HBW.out.size)); have HV2 := hide (below_box hX HV.out); clear hX HBW HV HBV u0 u1 u2 u3 u4; have HBW := HBW2; have HV := HV2; clear HBW2 HV2; go_wp2; go_ret
  exact ⟨by rw [HQ.out]; rfl, HBW.out⟩
 ·cases ca : aboveC vs k.vec
  ·
   have HQ : Hid (q = 152) := hide (by
     rw [← hq]
     exact suit_ab (show ¬ (k.out.length : Int) < (j : Int) by omega) (.inl ca))
   have HP := hide h; have HR := hide hr; have HN := hide hv; have HRN := hide hrn; have HVN := hide hvn; have HB4 := hide hb
   have ho4 : k.out.length ≤ 4096 := h.ok.out
   have qw : IntKind.i64.wrap ((j : Int) + (rn : Int)) = (j : Int) + (rn : Int) := by rw [IntKind.wrap_i64]; omega
   have d1 : decide ((j : Int) > (k.out.length : Int)) = false := decide_eq_false (by omega)
   have d1b : decide (j > k.out.length) = false := decide_eq_false (by omega)
   have HCA := hide ca
   obtain ⟨N, hN⟩ : ∃ N, k.out.length = N := ⟨_, rfl⟩
   have HNN := hide hN
   rw [hN] at d1 d1b
   have hlen := fun (X : World) (hX : Below W.heap.size W X) => len_any (HP.out.later hX)
   rw [hN] at hlen
   have HLEN := hide hlen; clear hlen hN ho4 h hr hv hrn hvn hb hj4 hq cg ca 
   obtain ⟨V, hV⟩ : ∃ V, V = W.alloc (.cells #[.int .i64 ep, .int .i64 id, .int .i64 (j : Int), .slice rp rn rc, .slice vp vn vc] 34 (0, 0)) := ⟨_, rfl⟩
   have HV : Hid (V.heap[W.heap.size]? = some (.cells #[.int .i64 ep, .int .i64 id, .int .i64 (j : Int), .slice rp rn rc, .slice vp vn vc] 34 (0, 0))) := hide (by rw [hV]; exact heap_alloc_new W _)
   have HBV : Hid (Below W.heap.size W V) := hide (by rw [hV]; exact alloc_below _ _)
   obtain ⟨bB, hbB⟩ : ∃ bB, W.heap.size = bB := ⟨_, rfl⟩
   rw [hbB] at HV HBV
   have HZbB := hide hbB
   go_enter Try.func52, Try.ntmps52
   go_upto_region 1 with fail
   rw [← hV]
   try rw [hbB]
   clear hV hbB; have u0 := cellB HV.out (i := 0) rfl; have u1 := cellB HV.out (i := 1) rfl; have u2 := cellB HV.out (i := 2) rfl; have u3 := cellB HV.out (i := 3) rfl; have u4 := cellB HV.out (i := 4) rfl
   have HBW : Hid (Below W.heap.size W V) := hide (by rw [HZbB.out]; exact HBV.out)
   go_upto_region 2 with fail
   refine region_class (fun X => Below V.heap.size V X) (by kernel_rfl) (by kernel_rfl) (Below.refl _ V).drew ?_
   repeat
    first
     | (refine BigFrame.wpQuiet_skip (by rfl) ?_
        simp only [Act.put, List.setIfInBounds_toArray, List.set_cons_zero, List.set_cons_succ])
     | (refine BigFrame.wpQuiet_want (by rfl) (fun K hK => ?_)
        unfold Oper.quiet
        apply Exists.intro
        refine ⟨fun X hX => ?_, hK _ ?_⟩
        · have hW := HBW.out.trans (hX.mono HBW.out.size)
          have l0 := cell_later hX u0
          have l1 := cell_later hX u1
          have l2 := cell_later hX u2
          have l3 := cell_later hX u3
          have l4 := cell_later hX u4
          first
           | (go_simp; done)
           | (go_simp; exact rfl)
           | (go_simp
              first
              | (go_at_call 29; refine (HLEN.out _ hW).mono ?_; rintro e w3 ⟨rfl, rfl⟩; exact ⟨rfl, hX⟩)
             )
        clear hK K
        simp only [Act.put, List.setIfInBounds_toArray, List.set_cons_zero, List.set_cons_succ])
   refine wpQuiet_nil (fun X hX => ?_)
   have HBW2 := hide (HBW.out.trans (hX.mono HBW.out.size)); have HV2 := hide (below_box hX HV.out); clear hX HBW HV HBV u0 u1 u2 u3 u4; have HBW := HBW2; have HV := HV2; clear HBW2 HV2; have u0 := cellB HV.out (i := 0) rfl; have u1 := cellB HV.out (i := 1) rfl; have u2 := cellB HV.out (i := 2) rfl; have u3 := cellB HV.out (i := 3) rfl; have u4 := cellB HV.out (i := 4) rfl
   go_upto_region 4 with fail
   refine region_class (fun Y => Below X.heap.size X Y) (by kernel_rfl) (by kernel_rfl) (Below.refl _ X).drew ?_
   repeat
    first
     | (refine BigFrame.wpQuiet_skip (by rfl) ?_
        simp only [Act.put, List.setIfInBounds_toArray, List.set_cons_zero, List.set_cons_succ])
     | (refine BigFrame.wpQuiet_want (by rfl) (fun K hK => ?_)
        unfold Oper.quiet
        apply Exists.intro
        refine ⟨fun Y hX => ?_, hK _ ?_⟩
        · have hW := HBW.out.trans (hX.mono HBW.out.size)
          have l0 := cell_later hX u0
          have l1 := cell_later hX u1
          have l2 := cell_later hX u2
          have l3 := cell_later hX u3
          have l4 := cell_later hX u4
          have m2 := (HP.out.later hW).c2
          first
           | (go_simp; done)
           | (go_simp; exact rfl)
           | (go_simp
              first
              | (go_at_call 75; refine (above_any (NRow.later HN.out hW) (HP.out.later hW).vrow HVN.out rfl HCA.out).mono ?_; rintro e w3 ⟨rfl, hb3⟩; exact ⟨rfl, hX.trans (hb3.mono hX.size)⟩)
              | (go_at_call 29; refine (HLEN.out _ hW).mono ?_; rintro e w3 ⟨rfl, rfl⟩; exact ⟨rfl, hX⟩)
             )
        clear hK K
        simp only [Act.put, List.setIfInBounds_toArray, List.set_cons_zero, List.set_cons_succ])
   refine wpQuiet_nil (fun Y hX => ?_)
   have HBW2 := hide (HBW.out.trans (hX.mono HBW.out.size)); have HV2 := hide (below_box hX HV.out); clear hX HBW HV u0 u1 u2 u3 u4; have HBW := HBW2; have HV := HV2; clear HBW2 HV2; go_wp2; go_ret
   exact ⟨by rw [HQ.out]; rfl, HBW.out⟩
  ·by_cases ce : j + rn < k.out.length
   ·
    have HQ : Hid (q = 152) := hide (by
      rw [← hq]
      exact suit_ab (show ¬ (k.out.length : Int) < (j : Int) by omega) (.inr (show (j : Int) + (rs.length : Int) < (k.out.length : Int) by omega)))
    have HP := hide h; have HR := hide hr; have HN := hide hv; have HRN := hide hrn; have HVN := hide hvn; have HB4 := hide hb
    have ho4 : k.out.length ≤ 4096 := h.ok.out
    have qw : IntKind.i64.wrap ((j : Int) + (rn : Int)) = (j : Int) + (rn : Int) := by rw [IntKind.wrap_i64]; omega
    have d1 : decide ((j : Int) > (k.out.length : Int)) = false := decide_eq_false (by omega)
    have d1b : decide (j > k.out.length) = false := decide_eq_false (by omega)
    have HCA := hide ca
    have d2 : decide ((j : Int) + (rn : Int) < (k.out.length : Int)) = true := decide_eq_true (by omega)
    have d2b : decide (j + rn < k.out.length) = true := decide_eq_true (by omega)
    obtain ⟨N, hN⟩ : ∃ N, k.out.length = N := ⟨_, rfl⟩
    have HNN := hide hN
    rw [hN] at d1 d1b d2 d2b
    have hlen := fun (X : World) (hX : Below W.heap.size W X) => len_any (HP.out.later hX)
    rw [hN] at hlen
    have HLEN := hide hlen; clear hlen hN ho4 h hr hv hrn hvn hb hj4 hq cg ca ce 
    obtain ⟨V, hV⟩ : ∃ V, V = W.alloc (.cells #[.int .i64 ep, .int .i64 id, .int .i64 (j : Int), .slice rp rn rc, .slice vp vn vc] 34 (0, 0)) := ⟨_, rfl⟩
    have HV : Hid (V.heap[W.heap.size]? = some (.cells #[.int .i64 ep, .int .i64 id, .int .i64 (j : Int), .slice rp rn rc, .slice vp vn vc] 34 (0, 0))) := hide (by rw [hV]; exact heap_alloc_new W _)
    have HBV : Hid (Below W.heap.size W V) := hide (by rw [hV]; exact alloc_below _ _)
    obtain ⟨bB, hbB⟩ : ∃ bB, W.heap.size = bB := ⟨_, rfl⟩
    rw [hbB] at HV HBV
    have HZbB := hide hbB
    go_enter Try.func52, Try.ntmps52
    go_upto_region 1 with fail
    rw [← hV]
    try rw [hbB]
    clear hV hbB; have u0 := cellB HV.out (i := 0) rfl; have u1 := cellB HV.out (i := 1) rfl; have u2 := cellB HV.out (i := 2) rfl; have u3 := cellB HV.out (i := 3) rfl; have u4 := cellB HV.out (i := 4) rfl
    have HBW : Hid (Below W.heap.size W V) := hide (by rw [HZbB.out]; exact HBV.out)
    go_upto_region 2 with fail
    refine region_class (fun X => Below V.heap.size V X) (by kernel_rfl) (by kernel_rfl) (Below.refl _ V).drew ?_
    repeat
     first
      | (refine BigFrame.wpQuiet_skip (by rfl) ?_
         simp only [Act.put, List.setIfInBounds_toArray, List.set_cons_zero, List.set_cons_succ])
      | (refine BigFrame.wpQuiet_want (by rfl) (fun K hK => ?_)
         unfold Oper.quiet
         apply Exists.intro
         refine ⟨fun X hX => ?_, hK _ ?_⟩
         · have hW := HBW.out.trans (hX.mono HBW.out.size)
           have l0 := cell_later hX u0
           have l1 := cell_later hX u1
           have l2 := cell_later hX u2
           have l3 := cell_later hX u3
           have l4 := cell_later hX u4
           first
            | (go_simp; done)
            | (go_simp; exact rfl)
            | (go_simp
               first
               | (go_at_call 29; refine (HLEN.out _ hW).mono ?_; rintro e w3 ⟨rfl, rfl⟩; exact ⟨rfl, hX⟩)
              )
         clear hK K
         simp only [Act.put, List.setIfInBounds_toArray, List.set_cons_zero, List.set_cons_succ])
    refine wpQuiet_nil (fun X hX => ?_)
    have HBW2 := hide (HBW.out.trans (hX.mono HBW.out.size)); have HV2 := hide (below_box hX HV.out); clear hX HBW HV HBV u0 u1 u2 u3 u4; have HBW := HBW2; have HV := HV2; clear HBW2 HV2; have u0 := cellB HV.out (i := 0) rfl; have u1 := cellB HV.out (i := 1) rfl; have u2 := cellB HV.out (i := 2) rfl; have u3 := cellB HV.out (i := 3) rfl; have u4 := cellB HV.out (i := 4) rfl
    go_upto_region 4 with fail
    refine region_class (fun Y => Below X.heap.size X Y) (by kernel_rfl) (by kernel_rfl) (Below.refl _ X).drew ?_
    repeat
     first
      | (refine BigFrame.wpQuiet_skip (by rfl) ?_
         simp only [Act.put, List.setIfInBounds_toArray, List.set_cons_zero, List.set_cons_succ])
      | (refine BigFrame.wpQuiet_want (by rfl) (fun K hK => ?_)
         unfold Oper.quiet
         apply Exists.intro
         refine ⟨fun Y hX => ?_, hK _ ?_⟩
         · have hW := HBW.out.trans (hX.mono HBW.out.size)
           have l0 := cell_later hX u0
           have l1 := cell_later hX u1
           have l2 := cell_later hX u2
           have l3 := cell_later hX u3
           have l4 := cell_later hX u4
           have m2 := (HP.out.later hW).c2
           first
            | (go_simp; done)
            | (go_simp; exact rfl)
            | (go_simp
               first
               | (go_at_call 75; refine (above_any (NRow.later HN.out hW) (HP.out.later hW).vrow HVN.out rfl HCA.out).mono ?_; rintro e w3 ⟨rfl, hb3⟩; exact ⟨rfl, hX.trans (hb3.mono hX.size)⟩)
               | (go_at_call 29; refine (HLEN.out _ hW).mono ?_; rintro e w3 ⟨rfl, rfl⟩; exact ⟨rfl, hX⟩)
              )
         clear hK K
         simp only [Act.put, List.setIfInBounds_toArray, List.set_cons_zero, List.set_cons_succ])
    refine wpQuiet_nil (fun Y hX => ?_)
    have HBW2 := hide (HBW.out.trans (hX.mono HBW.out.size)); have HV2 := hide (below_box hX HV.out); clear hX HBW HV u0 u1 u2 u3 u4; have HBW := HBW2; have HV := HV2; clear HBW2 HV2; go_wp2; go_ret
    exact ⟨by rw [HQ.out]; rfl, HBW.out⟩
   ·cases cs : sameC k.sk ⟨ep, id, (j : Int), rs, vs⟩
    ·
     have HQ : Hid (q = 153) := hide (by
       rw [← hq]
       exact suit_df (show ¬ (k.out.length : Int) < (j : Int) by omega) (show ¬ (aboveC vs k.vec = false ∨ (j : Int) + (rs.length : Int) < (k.out.length : Int)) by rintro (h9 | h9); (rw [ca] at h9; cases h9); omega) cs)
     have HP := hide h; have HR := hide hr; have HN := hide hv; have HRN := hide hrn; have HVN := hide hvn; have HB4 := hide hb
     have ho4 : k.out.length ≤ 4096 := h.ok.out
     have qw : IntKind.i64.wrap ((j : Int) + (rn : Int)) = (j : Int) + (rn : Int) := by rw [IntKind.wrap_i64]; omega
     have d1 : decide ((j : Int) > (k.out.length : Int)) = false := decide_eq_false (by omega)
     have d1b : decide (j > k.out.length) = false := decide_eq_false (by omega)
     have HCA := hide ca
     have d2 : decide ((j : Int) + (rn : Int) < (k.out.length : Int)) = false := decide_eq_false (by omega)
     have d2b : decide (j + rn < k.out.length) = false := decide_eq_false (by omega)
     have HRB : Hid (decide (rs.take (k.out.drop j).length ≠ k.out.drop j) = true) := hide (by
       have h9 : decide (k.out.drop j = rs.take (k.out.length - j)) = false := cs
       rw [List.length_drop]
       exact decide_eq_true (fun h8 => of_decide_eq_false h9 h8.symm))
     have HJJ : Hid (j ≤ k.out.length ∧ k.out.length ≤ j + rn) := hide ⟨by omega, by omega⟩
     obtain ⟨N, hN⟩ : ∃ N, k.out.length = N := ⟨_, rfl⟩
     have HNN := hide hN
     rw [hN] at d1 d1b d2 d2b
     have hlen := fun (X : World) (hX : Below W.heap.size W X) => len_any (HP.out.later hX)
     rw [hN] at hlen
     have HLEN := hide hlen; clear hlen hN ho4 h hr hv hrn hvn hb hj4 hq cg ca ce cs 
     obtain ⟨V, hV⟩ : ∃ V, V = W.alloc (.cells #[.int .i64 ep, .int .i64 id, .int .i64 (j : Int), .slice rp rn rc, .slice vp vn vc] 34 (0, 0)) := ⟨_, rfl⟩
     have HV : Hid (V.heap[W.heap.size]? = some (.cells #[.int .i64 ep, .int .i64 id, .int .i64 (j : Int), .slice rp rn rc, .slice vp vn vc] 34 (0, 0))) := hide (by rw [hV]; exact heap_alloc_new W _)
     have HBV : Hid (Below W.heap.size W V) := hide (by rw [hV]; exact alloc_below _ _)
     obtain ⟨bB, hbB⟩ : ∃ bB, W.heap.size = bB := ⟨_, rfl⟩
     rw [hbB] at HV HBV
     have HZbB := hide hbB
     go_enter Try.func52, Try.ntmps52
     go_upto_region 1 with fail
     rw [← hV]
     try rw [hbB]
     clear hV hbB; have u0 := cellB HV.out (i := 0) rfl; have u1 := cellB HV.out (i := 1) rfl; have u2 := cellB HV.out (i := 2) rfl; have u3 := cellB HV.out (i := 3) rfl; have u4 := cellB HV.out (i := 4) rfl
     have HBW : Hid (Below W.heap.size W V) := hide (by rw [HZbB.out]; exact HBV.out)
     go_upto_region 2 with fail
     refine region_class (fun X => Below V.heap.size V X) (by kernel_rfl) (by kernel_rfl) (Below.refl _ V).drew ?_
     repeat
      first
       | (refine BigFrame.wpQuiet_skip (by rfl) ?_
          simp only [Act.put, List.setIfInBounds_toArray, List.set_cons_zero, List.set_cons_succ])
       | (refine BigFrame.wpQuiet_want (by rfl) (fun K hK => ?_)
          unfold Oper.quiet
          apply Exists.intro
          refine ⟨fun X hX => ?_, hK _ ?_⟩
          · have hW := HBW.out.trans (hX.mono HBW.out.size)
            have l0 := cell_later hX u0
            have l1 := cell_later hX u1
            have l2 := cell_later hX u2
            have l3 := cell_later hX u3
            have l4 := cell_later hX u4
            first
             | (go_simp; done)
             | (go_simp; exact rfl)
             | (go_simp
                first
                | (go_at_call 29; refine (HLEN.out _ hW).mono ?_; rintro e w3 ⟨rfl, rfl⟩; exact ⟨rfl, hX⟩)
               )
          clear hK K
          simp only [Act.put, List.setIfInBounds_toArray, List.set_cons_zero, List.set_cons_succ])
     refine wpQuiet_nil (fun X hX => ?_)
     have HBW2 := hide (HBW.out.trans (hX.mono HBW.out.size)); have HV2 := hide (below_box hX HV.out); clear hX HBW HV HBV u0 u1 u2 u3 u4; have HBW := HBW2; have HV := HV2; clear HBW2 HV2; have u0 := cellB HV.out (i := 0) rfl; have u1 := cellB HV.out (i := 1) rfl; have u2 := cellB HV.out (i := 2) rfl; have u3 := cellB HV.out (i := 3) rfl; have u4 := cellB HV.out (i := 4) rfl
     go_upto_region 4 with fail
     refine region_class (fun Y => Below X.heap.size X Y) (by kernel_rfl) (by kernel_rfl) (Below.refl _ X).drew ?_
     repeat
      first
       | (refine BigFrame.wpQuiet_skip (by rfl) ?_
          simp only [Act.put, List.setIfInBounds_toArray, List.set_cons_zero, List.set_cons_succ])
       | (refine BigFrame.wpQuiet_want (by rfl) (fun K hK => ?_)
          unfold Oper.quiet
          apply Exists.intro
          refine ⟨fun Y hX => ?_, hK _ ?_⟩
          · have hW := HBW.out.trans (hX.mono HBW.out.size)
            have l0 := cell_later hX u0
            have l1 := cell_later hX u1
            have l2 := cell_later hX u2
            have l3 := cell_later hX u3
            have l4 := cell_later hX u4
            have m2 := (HP.out.later hW).c2
            first
             | (go_simp; done)
             | (go_simp; exact rfl)
             | (go_simp
                first
                | (go_at_call 75; refine (above_any (NRow.later HN.out hW) (HP.out.later hW).vrow HVN.out rfl HCA.out).mono ?_; rintro e w3 ⟨rfl, hb3⟩; exact ⟨rfl, hX.trans (hb3.mono hX.size)⟩)
                | (go_at_call 29; refine (HLEN.out _ hW).mono ?_; rintro e w3 ⟨rfl, rfl⟩; exact ⟨rfl, hX⟩)
               )
          clear hK K
          simp only [Act.put, List.setIfInBounds_toArray, List.set_cons_zero, List.set_cons_succ])
     refine wpQuiet_nil (fun Y hX => ?_)
     have HBW2 := hide (HBW.out.trans (hX.mono HBW.out.size)); have HV2 := hide (below_box hX HV.out); clear hX HBW HV u0 u1 u2 u3 u4; have HBW := HBW2; have HV := HV2; clear HBW2 HV2; have u0 := cellB HV.out (i := 0) rfl; have u1 := cellB HV.out (i := 1) rfl; have u2 := cellB HV.out (i := 2) rfl; have u3 := cellB HV.out (i := 3) rfl; have u4 := cellB HV.out (i := 4) rfl
     go_wp2_with fail
     refine (differs_any (HP.out.later HBW.out) (RRow.later HR.out HBW.out) HRN.out HJJ.out.1 HJJ.out.2 HB4.out HRB.out).mono ?_
     rintro _ w3 ⟨rfl, b3⟩
     have HBE := hide (HBW.out.trans (b3.mono HBW.out.size)); clear b3 u0 u1 u2 u3 u4; go_wp2; go_ret
     exact ⟨by rw [HQ.out]; rfl, HBE.out⟩
    ·by_cases cr : 4096 < j + rn
     ·
      have HQ : Hid (q = 30) := hide (by
        rw [← hq]
        exact suit_rm (show ¬ (k.out.length : Int) < (j : Int) by omega) (show ¬ (aboveC vs k.vec = false ∨ (j : Int) + (rs.length : Int) < (k.out.length : Int)) by rintro (h9 | h9); (rw [ca] at h9; cases h9); omega) (by rw [cs]; simp) (show (4096 : Int) < (j : Int) + (rs.length : Int) by omega))
      have HP := hide h; have HR := hide hr; have HN := hide hv; have HRN := hide hrn; have HVN := hide hvn; have HB4 := hide hb
      have ho4 : k.out.length ≤ 4096 := h.ok.out
      have qw : IntKind.i64.wrap ((j : Int) + (rn : Int)) = (j : Int) + (rn : Int) := by rw [IntKind.wrap_i64]; omega
      have d1 : decide ((j : Int) > (k.out.length : Int)) = false := decide_eq_false (by omega)
      have d1b : decide (j > k.out.length) = false := decide_eq_false (by omega)
      have HCA := hide ca
      have d2 : decide ((j : Int) + (rn : Int) < (k.out.length : Int)) = false := decide_eq_false (by omega)
      have d2b : decide (j + rn < k.out.length) = false := decide_eq_false (by omega)
      have HRB : Hid (decide (rs.take (k.out.drop j).length ≠ k.out.drop j) = false) := hide (by
        have h9 : decide (k.out.drop j = rs.take (k.out.length - j)) = true := cs
        rw [List.length_drop]
        exact decide_eq_false (fun h8 => h8 (of_decide_eq_true h9).symm))
      have HJJ : Hid (j ≤ k.out.length ∧ k.out.length ≤ j + rn) := hide ⟨by omega, by omega⟩
      have d3 : decide ((j : Int) + (rn : Int) > 4096) = true := decide_eq_true (by omega)
      obtain ⟨N, hN⟩ : ∃ N, k.out.length = N := ⟨_, rfl⟩
      have HNN := hide hN
      rw [hN] at d1 d1b d2 d2b
      have hlen := fun (X : World) (hX : Below W.heap.size W X) => len_any (HP.out.later hX)
      rw [hN] at hlen
      have HLEN := hide hlen; clear hlen hN ho4 h hr hv hrn hvn hb hj4 hq cg ca ce cs cr 
      obtain ⟨V, hV⟩ : ∃ V, V = W.alloc (.cells #[.int .i64 ep, .int .i64 id, .int .i64 (j : Int), .slice rp rn rc, .slice vp vn vc] 34 (0, 0)) := ⟨_, rfl⟩
      have HV : Hid (V.heap[W.heap.size]? = some (.cells #[.int .i64 ep, .int .i64 id, .int .i64 (j : Int), .slice rp rn rc, .slice vp vn vc] 34 (0, 0))) := hide (by rw [hV]; exact heap_alloc_new W _)
      have HBV : Hid (Below W.heap.size W V) := hide (by rw [hV]; exact alloc_below _ _)
      obtain ⟨bB, hbB⟩ : ∃ bB, W.heap.size = bB := ⟨_, rfl⟩
      rw [hbB] at HV HBV
      have HZbB := hide hbB
      go_enter Try.func52, Try.ntmps52
      go_upto_region 1 with fail
      rw [← hV]
      try rw [hbB]
      clear hV hbB; have u0 := cellB HV.out (i := 0) rfl; have u1 := cellB HV.out (i := 1) rfl; have u2 := cellB HV.out (i := 2) rfl; have u3 := cellB HV.out (i := 3) rfl; have u4 := cellB HV.out (i := 4) rfl
      have HBW : Hid (Below W.heap.size W V) := hide (by rw [HZbB.out]; exact HBV.out)
      go_upto_region 2 with fail
      refine region_class (fun X => Below V.heap.size V X) (by kernel_rfl) (by kernel_rfl) (Below.refl _ V).drew ?_
      repeat
       first
        | (refine BigFrame.wpQuiet_skip (by rfl) ?_
           simp only [Act.put, List.setIfInBounds_toArray, List.set_cons_zero, List.set_cons_succ])
        | (refine BigFrame.wpQuiet_want (by rfl) (fun K hK => ?_)
           unfold Oper.quiet
           apply Exists.intro
           refine ⟨fun X hX => ?_, hK _ ?_⟩
           · have hW := HBW.out.trans (hX.mono HBW.out.size)
             have l0 := cell_later hX u0
             have l1 := cell_later hX u1
             have l2 := cell_later hX u2
             have l3 := cell_later hX u3
             have l4 := cell_later hX u4
             first
              | (go_simp; done)
              | (go_simp; exact rfl)
              | (go_simp
                 first
                 | (go_at_call 29; refine (HLEN.out _ hW).mono ?_; rintro e w3 ⟨rfl, rfl⟩; exact ⟨rfl, hX⟩)
                )
           clear hK K
           simp only [Act.put, List.setIfInBounds_toArray, List.set_cons_zero, List.set_cons_succ])
      refine wpQuiet_nil (fun X hX => ?_)
      have HBW2 := hide (HBW.out.trans (hX.mono HBW.out.size)); have HV2 := hide (below_box hX HV.out); clear hX HBW HV HBV u0 u1 u2 u3 u4; have HBW := HBW2; have HV := HV2; clear HBW2 HV2; have u0 := cellB HV.out (i := 0) rfl; have u1 := cellB HV.out (i := 1) rfl; have u2 := cellB HV.out (i := 2) rfl; have u3 := cellB HV.out (i := 3) rfl; have u4 := cellB HV.out (i := 4) rfl
      go_upto_region 4 with fail
      refine region_class (fun Y => Below X.heap.size X Y) (by kernel_rfl) (by kernel_rfl) (Below.refl _ X).drew ?_
      repeat
       first
        | (refine BigFrame.wpQuiet_skip (by rfl) ?_
           simp only [Act.put, List.setIfInBounds_toArray, List.set_cons_zero, List.set_cons_succ])
        | (refine BigFrame.wpQuiet_want (by rfl) (fun K hK => ?_)
           unfold Oper.quiet
           apply Exists.intro
           refine ⟨fun Y hX => ?_, hK _ ?_⟩
           · have hW := HBW.out.trans (hX.mono HBW.out.size)
             have l0 := cell_later hX u0
             have l1 := cell_later hX u1
             have l2 := cell_later hX u2
             have l3 := cell_later hX u3
             have l4 := cell_later hX u4
             have m2 := (HP.out.later hW).c2
             first
              | (go_simp; done)
              | (go_simp; exact rfl)
              | (go_simp
                 first
                 | (go_at_call 75; refine (above_any (NRow.later HN.out hW) (HP.out.later hW).vrow HVN.out rfl HCA.out).mono ?_; rintro e w3 ⟨rfl, hb3⟩; exact ⟨rfl, hX.trans (hb3.mono hX.size)⟩)
                 | (go_at_call 29; refine (HLEN.out _ hW).mono ?_; rintro e w3 ⟨rfl, rfl⟩; exact ⟨rfl, hX⟩)
                )
           clear hK K
           simp only [Act.put, List.setIfInBounds_toArray, List.set_cons_zero, List.set_cons_succ])
      refine wpQuiet_nil (fun Y hX => ?_)
      have HBW2 := hide (HBW.out.trans (hX.mono HBW.out.size)); have HV2 := hide (below_box hX HV.out); clear hX HBW HV u0 u1 u2 u3 u4; have HBW := HBW2; have HV := HV2; clear HBW2 HV2; have u0 := cellB HV.out (i := 0) rfl; have u1 := cellB HV.out (i := 1) rfl; have u2 := cellB HV.out (i := 2) rfl; have u3 := cellB HV.out (i := 3) rfl; have u4 := cellB HV.out (i := 4) rfl
      go_wp2_with fail
      refine (differs_any (HP.out.later HBW.out) (RRow.later HR.out HBW.out) HRN.out HJJ.out.1 HJJ.out.2 HB4.out HRB.out).mono ?_
      rintro _ w3 ⟨rfl, b3⟩
      have HBE := hide (HBW.out.trans (b3.mono HBW.out.size)); clear b3 u0 u1 u2 u3 u4; go_wp2; go_ret
      exact ⟨by rw [HQ.out]; rfl, HBE.out⟩
     ·
      have HQ : Hid (q = 0) := hide (by
        rw [← hq]
        exact suit_ok (show ¬ (k.out.length : Int) < (j : Int) by omega) (show ¬ (aboveC vs k.vec = false ∨ (j : Int) + (rs.length : Int) < (k.out.length : Int)) by rintro (h9 | h9); (rw [ca] at h9; cases h9); omega) (by rw [cs]; simp) (show ¬ (4096 : Int) < (j : Int) + (rs.length : Int) by omega))
      have HP := hide h; have HR := hide hr; have HN := hide hv; have HRN := hide hrn; have HVN := hide hvn; have HB4 := hide hb
      have ho4 : k.out.length ≤ 4096 := h.ok.out
      have qw : IntKind.i64.wrap ((j : Int) + (rn : Int)) = (j : Int) + (rn : Int) := by rw [IntKind.wrap_i64]; omega
      have d1 : decide ((j : Int) > (k.out.length : Int)) = false := decide_eq_false (by omega)
      have d1b : decide (j > k.out.length) = false := decide_eq_false (by omega)
      have HCA := hide ca
      have d2 : decide ((j : Int) + (rn : Int) < (k.out.length : Int)) = false := decide_eq_false (by omega)
      have d2b : decide (j + rn < k.out.length) = false := decide_eq_false (by omega)
      have HRB : Hid (decide (rs.take (k.out.drop j).length ≠ k.out.drop j) = false) := hide (by
        have h9 : decide (k.out.drop j = rs.take (k.out.length - j)) = true := cs
        rw [List.length_drop]
        exact decide_eq_false (fun h8 => h8 (of_decide_eq_true h9).symm))
      have HJJ : Hid (j ≤ k.out.length ∧ k.out.length ≤ j + rn) := hide ⟨by omega, by omega⟩
      have d3 : decide ((j : Int) + (rn : Int) > 4096) = false := decide_eq_false (by omega)
      obtain ⟨N, hN⟩ : ∃ N, k.out.length = N := ⟨_, rfl⟩
      have HNN := hide hN
      rw [hN] at d1 d1b d2 d2b
      have hlen := fun (X : World) (hX : Below W.heap.size W X) => len_any (HP.out.later hX)
      rw [hN] at hlen
      have HLEN := hide hlen; clear hlen hN ho4 h hr hv hrn hvn hb hj4 hq cg ca ce cs cr 
      obtain ⟨V, hV⟩ : ∃ V, V = W.alloc (.cells #[.int .i64 ep, .int .i64 id, .int .i64 (j : Int), .slice rp rn rc, .slice vp vn vc] 34 (0, 0)) := ⟨_, rfl⟩
      have HV : Hid (V.heap[W.heap.size]? = some (.cells #[.int .i64 ep, .int .i64 id, .int .i64 (j : Int), .slice rp rn rc, .slice vp vn vc] 34 (0, 0))) := hide (by rw [hV]; exact heap_alloc_new W _)
      have HBV : Hid (Below W.heap.size W V) := hide (by rw [hV]; exact alloc_below _ _)
      obtain ⟨bB, hbB⟩ : ∃ bB, W.heap.size = bB := ⟨_, rfl⟩
      rw [hbB] at HV HBV
      have HZbB := hide hbB
      go_enter Try.func52, Try.ntmps52
      go_upto_region 1 with fail
      rw [← hV]
      try rw [hbB]
      clear hV hbB; have u0 := cellB HV.out (i := 0) rfl; have u1 := cellB HV.out (i := 1) rfl; have u2 := cellB HV.out (i := 2) rfl; have u3 := cellB HV.out (i := 3) rfl; have u4 := cellB HV.out (i := 4) rfl
      have HBW : Hid (Below W.heap.size W V) := hide (by rw [HZbB.out]; exact HBV.out)
      go_upto_region 2 with fail
      refine region_class (fun X => Below V.heap.size V X) (by kernel_rfl) (by kernel_rfl) (Below.refl _ V).drew ?_
      repeat
       first
        | (refine BigFrame.wpQuiet_skip (by rfl) ?_
           simp only [Act.put, List.setIfInBounds_toArray, List.set_cons_zero, List.set_cons_succ])
        | (refine BigFrame.wpQuiet_want (by rfl) (fun K hK => ?_)
           unfold Oper.quiet
           apply Exists.intro
           refine ⟨fun X hX => ?_, hK _ ?_⟩
           · have hW := HBW.out.trans (hX.mono HBW.out.size)
             have l0 := cell_later hX u0
             have l1 := cell_later hX u1
             have l2 := cell_later hX u2
             have l3 := cell_later hX u3
             have l4 := cell_later hX u4
             first
              | (go_simp; done)
              | (go_simp; exact rfl)
              | (go_simp
                 first
                 | (go_at_call 29; refine (HLEN.out _ hW).mono ?_; rintro e w3 ⟨rfl, rfl⟩; exact ⟨rfl, hX⟩)
                )
           clear hK K
           simp only [Act.put, List.setIfInBounds_toArray, List.set_cons_zero, List.set_cons_succ])
      refine wpQuiet_nil (fun X hX => ?_)
      have HBW2 := hide (HBW.out.trans (hX.mono HBW.out.size)); have HV2 := hide (below_box hX HV.out); clear hX HBW HV HBV u0 u1 u2 u3 u4; have HBW := HBW2; have HV := HV2; clear HBW2 HV2; have u0 := cellB HV.out (i := 0) rfl; have u1 := cellB HV.out (i := 1) rfl; have u2 := cellB HV.out (i := 2) rfl; have u3 := cellB HV.out (i := 3) rfl; have u4 := cellB HV.out (i := 4) rfl
      go_upto_region 4 with fail
      refine region_class (fun Y => Below X.heap.size X Y) (by kernel_rfl) (by kernel_rfl) (Below.refl _ X).drew ?_
      repeat
       first
        | (refine BigFrame.wpQuiet_skip (by rfl) ?_
           simp only [Act.put, List.setIfInBounds_toArray, List.set_cons_zero, List.set_cons_succ])
        | (refine BigFrame.wpQuiet_want (by rfl) (fun K hK => ?_)
           unfold Oper.quiet
           apply Exists.intro
           refine ⟨fun Y hX => ?_, hK _ ?_⟩
           · have hW := HBW.out.trans (hX.mono HBW.out.size)
             have l0 := cell_later hX u0
             have l1 := cell_later hX u1
             have l2 := cell_later hX u2
             have l3 := cell_later hX u3
             have l4 := cell_later hX u4
             have m2 := (HP.out.later hW).c2
             first
              | (go_simp; done)
              | (go_simp; exact rfl)
              | (go_simp
                 first
                 | (go_at_call 75; refine (above_any (NRow.later HN.out hW) (HP.out.later hW).vrow HVN.out rfl HCA.out).mono ?_; rintro e w3 ⟨rfl, hb3⟩; exact ⟨rfl, hX.trans (hb3.mono hX.size)⟩)
                 | (go_at_call 29; refine (HLEN.out _ hW).mono ?_; rintro e w3 ⟨rfl, rfl⟩; exact ⟨rfl, hX⟩)
                )
           clear hK K
           simp only [Act.put, List.setIfInBounds_toArray, List.set_cons_zero, List.set_cons_succ])
      refine wpQuiet_nil (fun Y hX => ?_)
      have HBW2 := hide (HBW.out.trans (hX.mono HBW.out.size)); have HV2 := hide (below_box hX HV.out); clear hX HBW HV u0 u1 u2 u3 u4; have HBW := HBW2; have HV := HV2; clear HBW2 HV2; have u0 := cellB HV.out (i := 0) rfl; have u1 := cellB HV.out (i := 1) rfl; have u2 := cellB HV.out (i := 2) rfl; have u3 := cellB HV.out (i := 3) rfl; have u4 := cellB HV.out (i := 4) rfl
      go_wp2_with fail
      refine (differs_any (HP.out.later HBW.out) (RRow.later HR.out HBW.out) HRN.out HJJ.out.1 HJJ.out.2 HB4.out HRB.out).mono ?_
      rintro _ w3 ⟨rfl, b3⟩
      have HBE := hide (HBW.out.trans (b3.mono HBW.out.size)); clear b3 u0 u1 u2 u3 u4; go_wp2; go_ret
      exact ⟨by rw [HQ.out]; rfl, HBE.out⟩
theorem suits_any {B : Nat} {W : World} {k : PK} {x : TP} (h : PS B W k) (hx : x.ok W) (hm : mayC k.vec.length x.t) {q : Int} (hq : suitC k.sk x.t = q) :
  Calls Try.prog 52 #[.pointer (some ⟨k.b, 0, none⟩), .agg x.row] W fun e w' => e = .returned (.int .i64 q) ∧ Below W.heap.size W w' := by
 obtain ⟨⟨ep, id, bg, rs, vs⟩, rp, rc, vp, vc⟩ := x
 obtain ⟨h1, h2, h3, h4, h5, h6⟩ := hm
 simp only at h3 h4 h5
 obtain ⟨j, rfl⟩ : ∃ j : Nat, bg = (j : Int) := ⟨bg.toNat, by omega⟩
 exact suits_nat h hx.r hx.v rfl rfl (by omega) h5 hq
end Go.Proofs.Ytboofnkajjnmeaa
