/-
  slices.Collect of the names in the sink's map. Nothing of a package but the map.
-/
import Derived.Test.YtboofnkajjnmeaaSkr
import Derived.Maps.OwnIn
import Derived.Maps.AppendAt
import Derived.Sort.CutIn
import Derived.BigQuiet
namespace Go.Proofs.Ytboofnkajjnmeaa
open Go.RowKit Go.Maps Go.Shelf
attribute [local go_sem] Oper.semAt_some

def nmC (p : Int × Int) : List Value := [.int .i64 p.1, .int .i64 p.2]
theorem Try.infoNm : (Try.prog.info? 55).map (fun i => (i.zero, i.size, i.bytes)) = some (some (.agg #[.int .i64 0, .int .i64 0]), 2, 16) := by kernel_rfl
theorem keys_any (mb : Option Nat) (W : World) : Calls Try.prog 63 #[.map mb] W fun e w' => e = .returned (.func (.func 85) #[] #[.pointer (some ⟨W.heap.size, 0, none⟩)]) ∧ w' = W.alloc (.cells #[.map mb] 61) := by
  go_enter Try.func63, Try.ntmps63
  go_wp2
  go_ret
  exact ⟨rfl, rfl⟩
theorem keys_gives (n : Nat) (hn : 1 ≤ n) {Bm mb nn : Nat} {xs : List TP} {reg : Int} (hN : Named xs reg) (w : World) (hBm : Bm < w.heap.size) (hm : w.cell? ⟨Bm, 0, none⟩ = some (.map (some mb))) (hown : MapT w mb nn xs) :
    SeqGives Fence.wide n Try.prog 85 #[.pointer (some ⟨Bm, 0, none⟩)] nmV (fun ss => ss.Perm (xs.map TP.nm)) xs.length w := fun l J W hW hJ hY h0 =>
  keys1_in n hn l Bm mb nn hN J hY W hJ ((hW.cell (p := ⟨Bm, 0, none⟩) hBm).trans hm) (hown.later hW) h0

def ApI (W0 : World) (oB : Nat) : List (Int × Int) → World → Prop := fun ss X =>
  ∃ p c, Boxed X oB 69 (.slice p ss.length c) ∧ X.ownsRow (oB + 3) 55 2 (.slice p ss.length c) ss.length (ss.flatMap nmC) ∧ Below oB W0 X
theorem ApI.ab {W0 : World} {oB : Nat} : AbidesFrom (oB + 1) (ApI W0 oB) := by
  rintro ss X X' row ⟨p, c, h1, h2, h3⟩ hg hrow
  have hrow' : ∀ r, row = some r → ∃ o : Obj, X.heap[r]? = some o ∧ o.isWalk = true := fun r e => (hrow r e).2
  refine ⟨p, c, (grownBy_keeps hg hrow' h1 rfl).trans h1, h2.kept hg ?_, h3.grown hg ?_ (fun k e => by have := (hrow k e).1; omega)⟩
  · rcases h2.2 with ⟨e, _⟩ | ⟨g, cap, cur, e, _, hgb, _⟩
    · exact .inl (by rw [e]; rfl)
    · refine .inr fun e' => ?_
      rw [e] at e'
      obtain ⟨o, ho, hw⟩ := hrow' g (by simpa [Value.ownBlock] using e'.symm)
      rw [hgb] at ho; cases ho; cases hw
  · have := (Array.getElem?_eq_some_iff.1 (show X.heap[oB]? = _ from h1)).1
    omega
theorem ApI.put {W0 : World} {oB r : Nat} {o' : Obj} (hr : r = oB + 1 ∨ r = oB + 2) {ss : List (Int × Int)} {X : World} (h : ApI W0 oB ss X) : ApI W0 oB ss (X.putObj r o') := by
  obtain ⟨p, c, h1, h2, h3⟩ := h
  refine ⟨p, c, put_onlyS.obj h1 (fun e => by have e' : oB = r := e; omega), ownsRow_only h2 put_onlyS (fun b hb e => by
    have e' : b = r := e
    have := own_block_base h2 hb
    omega), ?_⟩
  exact h3.trans (put_onlyS.below (Nat.le_of_lt (Array.getElem?_eq_some_iff.1 (show X.heap[oB]? = _ from h1)).1) (fun i e => by have e' : i = r := e; omega))

set_option maxRecDepth 100000 in
set_option maxHeartbeats 4000000 in
theorem appendSeq_in (n : Nat) (hn : 3 ≤ n) {W : World} {gf : Nat} {lb : Array Value} {S : List (Int × Int) → Prop} {N : Nat} (eg : ∀ args w, (callFunc gf args).run Try.prog w = .ok (.enter gf args) w) (hseq : SeqGives Fence.wide (n - 1) Try.prog gf lb nmV S N W) (hN : N ≤ 1048576) :
    CallsIn Fence.wide n Try.prog 88 #[.slice none 0 0, .func (.func gf) #[] lb] W fun e w' => ∃ p c ss, e = .returned (.slice p ss.length c) ∧ S ss ∧ w'.ownsRow W.heap.size 55 2 (.slice p ss.length c) ss.length (ss.flatMap nmC) ∧ Below W.heap.size W w' := by
  obtain ⟨i0, hI0, hz0, hz1, hz2⟩ := info_parts Try.infoNm
  have HSQ := hide hseq
  clear hseq
  refine callsIn_of_wp_marks Try.func88 rfl trivial ?_ rfl
  simp only [Try.ntmps88, List.size_toArray, List.length_cons, List.length_nil, Nat.reduceAdd, Nat.reduceSub, Array.replicate_succ, Array.replicate_zero, List.push_toArray, List.append_toArray, List.nil_append, List.cons_append]
  gi_wp2_with fail
  obtain ⟨U, hU⟩ : ∃ U, U = W.alloc (.cells #[.slice none 0 0] 69 (0, 0)) := ⟨_, rfl⟩
  rw [← hU]
  have hUB : Below W.heap.size W U := by rw [hU]; exact alloc_below _ _
  obtain ⟨oB, hoB⟩ : ∃ oB, W.heap.size = oB := ⟨_, rfl⟩
  have hbo : U.heap[oB]? = some (.cells #[.slice none 0 0] 69 (0, 0)) := by
    rw [hU, ← hoB]
    exact heap_alloc_new W _
  have hUs : U.heap.size = oB + 1 := by rw [hU, ← hoB]; simp
  try rw [hoB]
  rw [hoB] at hUB
  have HWU := hide hUB
  have HSQ' := hide (HSQ.out.later (by rw [hoB]; exact hUB))
  clear hU HSQ
  refine range_given (by omega) HSQ'.out rfl eg rfl (ApI W oB) (by rw [hUs]; exact ApI.ab) ?puts ?start
    (fun x X => { tmps := #[.slice none 0 0, .func (.func gf) #[] lb, .pointer (some ⟨oB, 0, none⟩), undef, .slice none 0 0, .pointer (some ⟨X.heap.size, 0, none⟩), .func (.func gf) #[] lb, nmV x, undef, undef, undef, undef, undef], defers := [] }) (fun x X => X.alloc (.cells #[.int .i64 x.1, .int .i64 x.2] 55 (0, 0))) (fun x X => alloc_grown X _) ?assign ?body ?done
  case puts =>
    intro ss X o' h1
    rw [hUs]
    exact ApI.put (.inr rfl) h1
  case start =>
    intro r
    have hb2 : Below U.heap.size U ((U.alloc (.deferred (some []))).alloc (.loop r)) := (alloc_below U _).trans ((alloc_below _ _).mono (by simp))
    exact ⟨none, 0, below_box hb2 hbo, World.ownsRow_nil _ _ _ _, HWU.out.trans (hb2.mono (by omega))⟩
  case assign =>
    intro l' x X K hK
    obtain ⟨e0, i0⟩ := x
    simp only [nmV, keyV] at hK ⊢
    gi_wp2
    exact hK
  case body =>
    rintro l' pre x Z X hI hk hsz hoX
    obtain ⟨e1, i1⟩ := x
    simp only at hoX ⊢
    have hpb : X.heap[Z.heap.size]? = some (.cells #[.int .i64 e1, .int .i64 i1] 55 (0, 0)) := hoX.obj (heap_alloc_new Z _) (fun e => by have e' : Z.heap.size = U.heap.size + 1 := e; omega)
    have x0 := cellB hpb (i := 0) rfl
    have x1 := cellB hpb (i := 1) rfl
    have hZX : oB + 3 ≤ X.heap.size := by have := hoX.size; simp at this; omega
    obtain ⟨p, c, h1, h3, h5⟩ := hI
    have co := h1.cell
    have cf := h1.frozen
    have qk : ((pre.length : Int) == (pre.length : Int)) = true := by simp
    have HRW := hide (ownsRow_later h3 (alloc_below X (.cells #[.int .i64 e1, .int .i64 i1] 55 (0, 0))))
    have HK1' : Hid (pre.length + 1 ≤ maxLen) := by show _ ≤ _; unfold maxLen; omega
    have HK2' : Hid ((pre.length + 1) * 16 ≤ 140737488355328) := by show _ ≤ _; omega
    have HBB' : Hid (oB + 3 ≤ (X.alloc (.cells #[.int .i64 e1, .int .i64 i1] 55 (0, 0))).heap.size) := hide (by simp; omega)
    have H1 := hide h1
    have H3 := hide h3
    have H5 := hide h5
    clear h1 h3 h5 hoX hpb
    gi_wp2_with (gi_at_builtin; refine wpListIn_append_own_at _ rfl (.tmp 8) (.tmp 10) 69 rfl (oB + 3) 55 i0 (.agg #[.int .i64 0, .int .i64 0]) 2 16 Try.underlying69 hI0 hz0 hz1 hz2 rfl (by decide) (.slice p pre.length c) pre.length _ rfl HRW.out ⟨X.heap.size, 0, none⟩ 1 1 [.int .i64 e1, .int .i64 i1] rfl rfl (World.news_of_block (heap_alloc_new X _)) (by simp [Value.oneCell']) HK1'.out HK2'.out HBB'.out ?_)
    intro v4 w4 hown hgrow _ _
    obtain ⟨p4, c4, rfl, _, _⟩ := own_form hown
    have hoW : Only (fun i => (Value.slice p pre.length c).ownBlock = some i) X w4 := (Only.alloc _ _ _).trans (Only.of_grown hgrow (fun k e => e))
    have hnoB : ∀ i, (Value.slice p pre.length c).ownBlock = some i → oB + 3 ≤ i := fun i e => own_block_base H3.out e
    have hnoC : ∀ i, (Value.slice p pre.length c).ownBlock = some i → ∃ cur, X.heap[i]? = some (.cells cur 55 (0, 0)) := fun i e => (own_block_lt H3.out e).2
    have hbx4 : Boxed w4 oB 69 (.slice p pre.length c) := hoW.obj H1.out (fun e => by have := hnoB _ e; omega)
    have co4 := hbx4.cell
    have cf4 := hbx4.frozen
    have hoF : Only (fun i => (Value.slice p pre.length c).ownBlock = some i ∨ i = oB) X (w4.setCell ⟨oB, 0, none⟩ (.slice p4 (pre.length + 1) c4)) := (hoW.mono (fun i _ e => .inl e)).trans (Only.set (F := fun i => (Value.slice p pre.length c).ownBlock = some i ∨ i = oB) w4 oB 0 _ (.inr rfl))
    have HKP : Hid (Kept (fun i => i = oB + 1 ∨ i = oB + 1 + 1) X (w4.setCell ⟨oB, 0, none⟩ (.slice p4 (pre.length + 1) c4))) := by
      refine hide (fun i hi => hoF.block i ?_ ?_)
      · rcases hi with h | h <;> omega
      · rintro (e | e)
        · have := hnoB _ e
          rcases hi with h | h <;> omega
        · rcases hi with h | h <;> omega
    have HKW : Hid (KeepsWalks X (w4.setCell ⟨oB, 0, none⟩ (.slice p4 (pre.length + 1) c4))) := by
      refine hide (((KeepsWalks.alloc X _).trans (KeepsWalks.of_grownBy hgrow (fun j o e ho => ?_))).trans (KeepsWalks.setCell _ _ _))
      obtain ⟨cur, hc⟩ := hnoC j e
      rw [below_box (alloc_below X _) hc] at ho
      cases ho
      rfl
    have HTD : Hid (ApI W oB (pre ++ [(e1, i1)]) (w4.setCell ⟨oB, 0, none⟩ (.slice p4 (pre.length + 1) c4))) := by
      have hl : (pre ++ [(e1, i1)]).length = pre.length + 1 := by simp
      refine hide ⟨p4, c4, ?_, ?_, ?_⟩
      · rw [hl]; exact hbx4.set _
      · rw [hl, List.flatMap_append]
        have e1 : [(e1, i1)].flatMap nmC = [.int .i64 e1, .int .i64 i1] := rfl
        rw [e1]
        exact ownsRow_only hown (Only.set (F := (· = oB)) w4 oB 0 _ rfl) (fun b hb e => by have e' : b = oB := e; have := own_block_base hown hb; omega)
      · exact H5.out.trans (hoF.below (by omega) (fun i e => by
          rcases e with e | e
          · have := hnoB _ e; omega
          · omega))
    clear hown hgrow hoW hnoB hnoC hbx4 hoF
    gi_wp2
    exact ⟨HTD.out, HKW.out, HKP.out⟩
  case done =>
    rintro D ss X hD hS hI hK
    obtain ⟨p, c, h1, h3, h5⟩ := hI
    have co := h1.cell
    have cf := h1.frozen
    have HK := hide hK
    have HRW := hide h3
    have HB := hide h5
    have HS := hide hS
    have hXo := (Array.getElem?_eq_some_iff.1 (show X.heap[oB]? = _ from h1)).1
    clear h1 h3 h5 hK hS
    gi_wp2
    refine ⟨by simp, .inl ⟨_, _, rfl, run_takeDeferred HK.out, ?_⟩⟩
    refine ⟨_, results_tmp rfl _ _ _, p, c, ss, rfl, HS.out, ?_, ?_⟩
    · exact ownsRow_base (ownsRow_only HRW.out put_onlyS (fun b hb e => by have e' : b = D := e; have := own_block_base HRW.out hb; omega)) (by omega)
    · rw [hoB]
      exact HB.out.trans (put_onlyS.below (by omega) (fun i e => by have e' : i = D := e; omega))
end Go.Proofs.Ytboofnkajjnmeaa
