/-
  What parted makes of what is told. The conditions: lengths.
-/
import Derived.Test.YtihbdlbnpkmafaaEpa
import Derived.OrdersIn
namespace Go.Proofs.Ytihbdlbnpkmafaa
open Go.RowKit Go.Shelf
attribute [local go_sem] Oper.semAt_some

theorem stepIn_append_at {F : Fence} {nF : Nat} {P : Program} {ops : Array Oper} {o : Oper} {a : Act} {w : World} {K : Act → World → Prop} {Q : Exit → Act → World → Prop} {E : Prop} (hgd : o.guard = none) (s x : Operand) (t : TypeId)
    (ho : o.op = .call { callee := .builtin .append, args := #[s, x], argTypes := #[t, t] })
    (base : Nat) (e : TypeId) (i : TypeInfo) (z : Value) (size bytes : Nat) (ht : P.underlying t = some (.slice e)) (hi : P.info? e = some i) (hz : i.zero = some z)
    (hsize : i.size = size) (hby : i.bytes = bytes) (hzs : z.cells.size = size) (hsz : 0 < size)
    (v : Value) (n : Nat) (xs : List Value) (hs : a.eval s = v) (hown : w.ownsRow base e size v n xs)
    (ad : Addr) (m c : Nat) (news : List Value) (hx : a.eval x = .slice (some ad) m c) (hl : news.length = m * size) (hnews : ∀ j u, news[j]? = some u → w.cell? (ad.add j) = some u) (h1 : ∀ u ∈ news, u.oneCell' = true)
    (h63 : n + m ≤ maxLen) (hbytes : (n + m) * bytes ≤ 140737488355328) (hbase : base ≤ w.heap.size)
    (h : ∀ v' w', w'.ownsRow base e size v' (n + m) (xs ++ news) → w.grownBy w' v.ownBlock → (v'.ownBlock = v.ownBlock ∨ v'.ownBlock = some w.heap.size) → K (a.put o.dst v') w') :
    if Region.wanted o (yielded ops a.tmps) = true then Oper.wpIn F nF P o a w K Q else E := by
  have hw : Region.wanted o (yielded ops a.tmps) = true := by simp [Region.wanted, hgd]
  rw [if_pos hw]
  obtain ⟨v', w', hr, h2, h3, _, h5⟩ := run_append_own_at (P := P) w base t o.type e i z size bytes ht hi hz hsize hby hzs hsz v n xs hown ad m c news hl hnews h1 h63 hbytes hbase
  unfold Oper.wpIn
  refine ⟨by simp [Oper.about, ho, resolve, Target.leads, Sem.run_pure], ?_⟩
  rw [Oper.semAt_plain F _ _ (by rw [ho]; intro c hc'; cases hc')]
  simp [execOp, ho, resolve, invoke, builtin, hs, hx, hr, Result.andThen]
  exact h v' w' h2 h3 h5

theorem opIn_round {F : Fence} {n : Nat} {P : Program} {o : Oper} {a : Act} {w : World} {K : Act → World → Prop} {Q : Exit → Act → World → Prop} {l : Nat} (hd : ∀ c, o.op ≠ .defer c) (h : o.wpIn F n P a w K Q) : o.wpIn (F.inRound l) n P a w K Q := by
  unfold Oper.wpIn at h ⊢
  rw [Oper.semAt_eq _ _ _ hd] at h ⊢
  exact h
theorem anyIn_round {F : Fence} {n : Nat} {P : Program} {md : Region.Mode} {ops : Array Oper} {Q : Exit → Act → World → Prop} {l : Nat} (hd : ∀ (i : Nat) (o : Oper), ops[i]? = some o → ∀ c, o.op ≠ .defer c) :
    ∀ (fuel : Nat) (listed : Array Bool) (a : Act) (w : World), wpAnyIn F n P md ops Q fuel listed a w → wpAnyIn (F.inRound l) n P md ops Q fuel listed a w
  | 0, _, _, _, h => h
  | fuel + 1, listed, a, w, h => by
    refine ⟨h.1, fun i hi => ?_⟩
    have h2 := wpOpIn_mono (fun a w h => anyIn_round (l := l) hd fuel _ a w h) (h.2 i hi)
    unfold wpOpIn at h2 ⊢
    cases ho : ops[i]? with
    | none => rw [ho] at h2; exact h2
    | some o =>
      rw [ho] at h2
      simp only at h2 ⊢
      by_cases hw : Region.wanted o (yielded ops a.tmps) = true
      · rw [if_pos hw] at h2 ⊢
        exact opIn_round (hd i o ho) h2
      · rw [if_neg hw] at h2 ⊢
        exact h2
def noDefer (ops : Array Oper) : Bool := ops.toList.all fun o => match o.op with | .defer _ => false | _ => true
theorem noDefer_at {ops : Array Oper} (h : noDefer ops = true) (i : Nat) (o : Oper) (ho : ops[i]? = some o) (c : Call) : o.op ≠ .defer c := by
  intro e
  have hm : o ∈ ops.toList := by rw [← Array.getElem?_toList] at ho; exact List.mem_of_getElem? ho
  have h2 := List.all_eq_true.1 h o hm
  rw [e] at h2
  simp at h2

set_option maxRecDepth 100000 in
set_option maxHeartbeats 8000000 in
theorem parted_in (n : Nat) (hn : 5 ≤ n) {W : World} {gf : Nat} {lb : Array Value} {ks : List EV} {Rd : World → Prop} (hseq : ∀ q, 3 ≤ q → TellsV q gf lb (epochsL ks).length (TvE ks) Rd) (eg : ∀ args w, (callFunc gf args).run Try.prog w = .ok (.enter gf args) w) (hRd : ∀ X, Below W.heap.size W X → Rd X) (hl : (epochsL ks).length * 32 ≤ 140737488355312) (hl2 : ∀ e ∈ epochsL ks, e.2.length * 16 ≤ 140737488355312) {L : Nat} (hL : (epochsL ks).length = L) :
    CallsIn Fence.wide n Try.prog 38 #[.func (.func gf) #[] lb] W fun e w' => ∃ p c vs, e = .returned (.slice p L c) ∧ w'.ownsRow W.heap.size 56 2 (.slice p L c) L (paCells (epochsL ks) vs) ∧ PaL W.heap.size (fun _ => False) w' (epochsL ks) vs ∧ Below W.heap.size W w' := by
  obtain ⟨i0, hI0, hz0, hz1, hz2⟩ := info_parts Try.infoEpoch
  have HSEQ := hide hseq
  have HRD := hide hRd
  have HLL := hide hL
  have HL2 := hide hl2
  clear hseq hRd hL hl2
  refine callsIn_of_wp_marks Try.func38 rfl trivial ?_ rfl
  simp only [Try.ntmps38, List.size_toArray, List.length_cons, List.length_nil, Nat.reduceAdd, Nat.reduceSub, Array.replicate_succ, Array.replicate_zero, List.push_toArray, List.append_toArray, List.nil_append, List.cons_append]
  gi_wp2_with fail
  obtain ⟨V, hV⟩ : ∃ V, V = W.alloc (.cells #[.slice none 0 0] 65 (0, 0)) := ⟨_, rfl⟩
  rw [← hV]
  have HVB : Hid (Below W.heap.size W V) := by rw [hV]; exact hide (alloc_below W _)
  obtain ⟨oB, hoB⟩ : ∃ oB, W.heap.size = oB := ⟨_, rfl⟩
  have hbo : V.heap[oB]? = some (.cells #[.slice none 0 0] 65 (0, 0)) := by rw [hV, ← hoB]; exact heap_alloc_new W _
  have hVs : V.heap.size = oB + 1 := by rw [hV, ← hoB]; simp
  have hWo : W.heap.size ≤ oB := by omega
  try rw [hoB]
  have HBO := hide hbo
  clear hV hoB hbo
  gi_wp2_with fail
  refine range_listV (by omega) (HSEQ.out (n - 1) (by omega)) rfl eg ?size (PaI V oB (epochsL ks)) (fun _ _ _ _ => False) (PaI.rob V oB _) (PaI.grw V oB _) (fun _ _ _ _ _ h _ => h) (fun _ _ _ _ _ _ h _ _ => h) (fun S k X o' h1 => PaI.put h1 (.inr rfl) (by omega)) (fun _ _ _ _ _ h => h) ?reads ?start
    (fun x X => { tmps := #[.func (.func gf) #[] lb, undef, .slice none 0 0, .pointer (some ⟨oB, 0, none⟩), x.getD 0 undef, x.getD 1 undef, .func (.func gf) #[] lb, x.getD 0 undef, x.getD 1 undef, undef, undef, undef, undef, undef, undef, undef, undef], defers := [] }) (fun x X => X) (fun x X => Below.refl _ _) ?assign ?body ?done ?stop
  case size =>
    rintro k x X hk ⟨id, rs, p, c, _, rfl, _⟩
    rfl
  case reads =>
    rintro S k X ⟨_, _, _, _, _, _, _, h5, _⟩
    exact HRD.out X (HVB.out.trans (h5.below HVB.out.size (fun i e => by have e' : i = oB := e; omega)))
  case start =>
    intro r
    have hb2 : Below V.heap.size V ((V.alloc (.deferred (some []))).alloc (.loop r)) := (alloc_below V _).trans ((alloc_below _ _).mono (by simp))
    exact ⟨none, 0, [], below_box hb2 HBO.out, fun e => e, World.ownsRow_nil _ _ _ _, fun b h => by simp [Value.ownBlock] at h, Only.fresh hb2 _, fun i e => e.elim, PaL.nil _ _ _⟩
  case assign =>
    rintro l' k x X K hk ⟨id, rs, p, c, _, rfl, _⟩ hK
    simp only [Array.getD_eq_getD_getElem?, List.getElem?_toArray, List.getElem?_cons_zero, List.getElem?_cons_succ, Option.getD_some] at hK
    gi_wp2
    exact hK
  case body =>
    rintro l' k x S Z X hI hk ⟨id, rs, p, c, hx, rfl, hrw⟩ _ ⟨lo, hlo⟩ hsz hoX hS0 hS1 hS2
    simp only [Array.getD_eq_getD_getElem?, List.getElem?_toArray, List.getElem?_cons_zero, List.getElem?_cons_succ, Option.getD_some]
    have hrx := RRow.put hoX hlo hrw
    obtain ⟨m, hm⟩ : ∃ m, rs.length = m := ⟨_, rfl⟩
    have hm2 : m * 16 ≤ 140737488355312 := by rw [← hm]; exact HL2.out _ (List.mem_of_getElem? hx)
    have HTK : Hid ((epochsL ks).take (k + 1) = (epochsL ks).take k ++ [(id, rs)]) := hide (by rw [List.take_add_one, hx]; rfl)
    have hZX : V.heap.size + 2 ≤ X.heap.size := by have := hoX.size; omega
    obtain ⟨p0, c0, vs, h1, h2, h3, h4, h5, h6, h7⟩ := hI
    rw [hm]
    have HM := hide hm
    have HCL := hide (fun (w : World) (hw : Below X.heap.size X w) => recClone (RRow.later hrx hw) hm (by omega))
    have co : ∀ w, Below X.heap.size X w → w.cell? ⟨oB, 0, none⟩ = some (.slice p0 k c0) := fun w hw => cell_later hw h1.cell
    have H1 := hide h1
    have H2 := hide h2
    have H3 := hide h3
    have H4 := hide h4
    have H5 := hide h5
    have H6 := hide h6
    have H7 := hide h7
    have HS2 := hide hS2
    have HCO := hide co
    clear hx hrx hrw h1 h2 h3 h4 h5 h6 h7 hoX hS2 co hm hlo
    gi_wp2_with fail
    refine wpIn_region_any (by kernel_rfl) ?_
    refine anyIn_round (F := Fence.wide) (noDefer_at (by kernel_rfl)) _ _ _ _ ?_
    try (change wpAnyIn _ _ _ _ _ _ _ _ _ (World.drew _))
    refine wpAnyIn_take (i := 1) (v := ?_) rfl rfl (by kernel_rfl) (by kernel_rfl) (by kernel_rfl) (fun _ _ _ h => h) ⟨Or.inl ⟨by rfl, ?_⟩, fun _ => rfl⟩ ?_
    case refine_2 => intro w; go_simp; try with_reducible rfl
    refine wpAnyIn_take (i := 2) (v := ?_) rfl rfl (by kernel_rfl) (by kernel_rfl) (by kernel_rfl) (fun _ _ _ h => h) ⟨Or.inl ⟨by rfl, ?_⟩, fun _ => rfl⟩ ?_
    case refine_2 => intro w; go_simp; try with_reducible rfl
    have B0 : Below X.heap.size X X.drew := (Below.refl _ X).drew
    have cX := HCO.out _ B0
    have hkL : k + 1 ≤ (epochsL ks).length := hk
    refine wpAnyIn_ready (rs := [0, 3]) (by kernel_rfl) (by simp) ?_
    refine AllReadyIn.cons rfl (fun K hK => ?_) ?_
    · go_simp
      refine hK _ _ ?_
      clear hK K
      refine wpAnyIn_ready (rs := [3]) (by kernel_rfl) (by simp) ?_
      refine AllReadyIn.cons rfl (fun K hK => ?_) ?_
      rotate_left
      · exact AllReadyIn.nil
      go_simp
      refine ⟨trivial, fun _ => by omega, (callsIn_wide.2 (HCL.out _ B0)).mono ?_⟩
      rintro _ w1 ⟨p1, c1, rfl, o1, b1⟩
      have B1 : Below X.heap.size X w1 := B0.trans b1
      have O1 := hide o1
      have cW := HCO.out _ B1
      clear o1 b1
      refine hK _ _ ?_
      clear hK K
      refine wpAnyIn_take (i := 4) (v := ?_) rfl rfl (by kernel_rfl) (by kernel_rfl) (by kernel_rfl) (fun _ _ _ h => h) ⟨Or.inl ⟨by rfl, ?_⟩, fun _ => rfl⟩ ?_
      case refine_2 => intro w; go_simp; try with_reducible rfl
      refine wpAnyIn_ready (rs := [5]) (by kernel_rfl) (by simp) ?_
      refine AllReadyIn.cons rfl (fun K hK => ?_) ?_
      rotate_left
      · exact AllReadyIn.nil
      go_simp
      have B2 : Below X.heap.size X (w1.alloc (.cells #[.int .i64 id, .slice p1 m c1] 56 (0, 0))) := B1.trans ((alloc_below w1 _).mono B1.size)
      have cV := HCO.out _ B2
      refine hK _ _ ?_
      clear hK K
      refine wpAnyIn_ready (rs := [6]) (by kernel_rfl) (by simp) ?_
      refine AllReadyIn.cons rfl (fun K hK => ?_) ?_
      rotate_left
      · exact AllReadyIn.nil
      refine stepIn_append_at rfl (.tmp 9) (.tmp 14) 65 rfl (V.heap.size + 2) 56 i0 (.agg #[.int .i64 0, .slice none 0 0]) 2 32 Try.underlying65 hI0 hz0 hz1 hz2 rfl (by decide) (.slice p0 k c0) k _ rfl (ownsRow_later H3.out B2) ⟨w1.heap.size, 0, none⟩ 1 1 [.int .i64 id, .slice p1 m c1] rfl rfl (World.news_of_block (heap_alloc_new w1 _)) (by simp [Value.oneCell']) (by unfold maxLen; omega) (by omega) (by have := B2.size; omega) ?_
      intro v4 w4 hown hgrow hwhere
      obtain ⟨p4, c4, rfl, _, _⟩ := own_form hown
      have hw1 : X.heap.size ≤ w1.heap.size := B1.size
      have hoV : Only (fun i => (Value.slice p0 k c0).ownBlock = some i) w1 w4 := (Only.alloc _ _ _).trans (Only.of_grown hgrow (fun k e => e))
      have hnoB : ∀ i, (Value.slice p0 k c0).ownBlock = some i → V.heap.size + 2 ≤ i ∧ i < X.heap.size := fun i e => ⟨own_block_base H3.out e, (own_block_lt H3.out e).1⟩
      have hbx4 : Boxed w4 oB 65 (.slice p0 k c0) := hoV.obj (below_box B1 H1.out) (fun e => by have := hnoB _ e; omega)
      have co4 := hbx4.cell
      have cf4 := hbx4.frozen
      have hoF1 : Only (fun i => (Value.slice p0 k c0).ownBlock = some i ∨ i = oB) w1 (w4.setCell ⟨oB, 0, none⟩ (.slice p4 (k + 1) c4)) := (hoV.mono (fun i _ e => .inl e)).trans (Only.set (F := fun i => (Value.slice p0 k c0).ownBlock = some i ∨ i = oB) w4 oB 0 _ (.inr rfl))
      have hoF : Only (fun i => (Value.slice p0 k c0).ownBlock = some i ∨ i = oB) X (w4.setCell ⟨oB, 0, none⟩ (.slice p4 (k + 1) c4)) := (Only.fresh B1 _).trans hoF1
      have HQ : Hid (roundEndS V.heap.size (PaI V oB (epochsL ks)) (fun _ _ _ _ => False) S k X .normal { tmps := #[], defers := [] } (w4.setCell ⟨oB, 0, none⟩ (.slice p4 (k + 1) c4))) := by
        refine hide ⟨fun i hi => hoF.block i ?_ ?_, hoF.size, p4, c4, vs ++ [.slice p1 m c1], hbx4.set _, H2.out, ?_, fun b hb hs => ?_, H5.out.step hoF (fun i e => ?_), H6.out, ?_⟩
        · rcases hi with h | h | h
          · exact HS2.out i h
          · omega
          · omega
        · rintro (e | e)
          · rcases hi with h | h | h
            · exact H4.out i e h
            · have := hnoB _ e; omega
            · have := hnoB _ e; omega
          · rcases hi with h | h | h
            · exact H2.out (by rw [← e]; exact h)
            · omega
            · omega
        · rw [HTK.out, paCells_snoc H7.out.1]
          exact hown.kept (grownBy_setCell' w4 oB _) (.inr (fun e => by have := own_block_base hown e; omega))
        · rcases hwhere with h | h
          · rw [h] at hb; exact H4.out b hb hs
          · rw [h] at hb
            simp only [World.size_alloc, Option.some.injEq] at hb
            have := HS2.out b hs
            omega
        · rcases e with e | e
          · exact .inr (by have := hnoB _ e; omega)
          · exact .inl e
        · rw [HTK.out]
          refine PaL.snoc (H7.out.step hoF (fun i e => ?_) (fun _ _ h => h)) ⟨p1, c1, ?_, ?_, fun b hb hs => ?_⟩
          · rcases e with e | e
            · obtain ⟨_, cur, h7⟩ := own_block_lt H3.out e
              exact .inr ⟨_, _, _, h7, by decide⟩
            · exact .inr ⟨_, _, _, by rw [e]; exact H1.out, by decide⟩
          · show Value.slice p1 m c1 = .slice p1 rs.length c1
            rw [HM.out]
          · show World.ownsRow _ _ _ 2 (.slice p1 rs.length c1) rs.length _
            rw [HM.out]
            refine ownsRow_base (ownsRow_only O1.out hoF1 (fun b hb e => ?_)) (by show _ ≤ X.heap.size; omega)
            have hb0 : X.heap.size ≤ b := own_block_base O1.out hb
            rcases e with e | e
            · have := hnoB _ e; omega
            · omega
          · have hb0 : X.heap.size ≤ b := own_block_base O1.out hb
            have := HS2.out b hs
            omega
      clear hown hgrow hwhere hoV hnoB hbx4 hoF hoF1
      refine hK _ _ ?_
      clear hK K
      refine wpAnyIn_ready (rs := [7]) (by kernel_rfl) (by simp) ?_
      refine AllReadyIn.cons rfl (fun K hK => ?_) ?_
      rotate_left
      · exact AllReadyIn.nil
      go_simp
      refine hK _ _ ?_
      clear hK K
      refine wpAnyIn_done (by kernel_rfl) ?_ _
      exact HQ.out
    refine AllReadyIn.cons rfl (fun K hK => ?_) ?_
    · go_simp
      refine ⟨trivial, fun _ => by omega, (callsIn_wide.2 (HCL.out _ B0)).mono ?_⟩
      rintro _ w1 ⟨p1, c1, rfl, o1, b1⟩
      have B1 : Below X.heap.size X w1 := B0.trans b1
      have O1 := hide o1
      have cW := HCO.out _ B1
      clear o1 b1
      refine hK _ _ ?_
      clear hK K
      refine wpAnyIn_take (i := 4) (v := ?_) rfl rfl (by kernel_rfl) (by kernel_rfl) (by kernel_rfl) (fun _ _ _ h => h) ⟨Or.inl ⟨by rfl, ?_⟩, fun _ => rfl⟩ ?_
      case refine_2 => intro w; go_simp; try with_reducible rfl
      refine wpAnyIn_ready (rs := [0, 5]) (by kernel_rfl) (by simp) ?_
      refine AllReadyIn.cons rfl (fun K hK => ?_) ?_
      · go_simp
        refine hK _ _ ?_
        clear hK K
        refine wpAnyIn_ready (rs := [5]) (by kernel_rfl) (by simp) ?_
        refine AllReadyIn.cons rfl (fun K hK => ?_) ?_
        rotate_left
        · exact AllReadyIn.nil
        go_simp
        have B2 : Below X.heap.size X (w1.alloc (.cells #[.int .i64 id, .slice p1 m c1] 56 (0, 0))) := B1.trans ((alloc_below w1 _).mono B1.size)
        have cV := HCO.out _ B2
        refine hK _ _ ?_
        clear hK K
        refine wpAnyIn_ready (rs := [6]) (by kernel_rfl) (by simp) ?_
        refine AllReadyIn.cons rfl (fun K hK => ?_) ?_
        rotate_left
        · exact AllReadyIn.nil
        refine stepIn_append_at rfl (.tmp 9) (.tmp 14) 65 rfl (V.heap.size + 2) 56 i0 (.agg #[.int .i64 0, .slice none 0 0]) 2 32 Try.underlying65 hI0 hz0 hz1 hz2 rfl (by decide) (.slice p0 k c0) k _ rfl (ownsRow_later H3.out B2) ⟨w1.heap.size, 0, none⟩ 1 1 [.int .i64 id, .slice p1 m c1] rfl rfl (World.news_of_block (heap_alloc_new w1 _)) (by simp [Value.oneCell']) (by unfold maxLen; omega) (by omega) (by have := B2.size; omega) ?_
        intro v4 w4 hown hgrow hwhere
        obtain ⟨p4, c4, rfl, _, _⟩ := own_form hown
        have hw1 : X.heap.size ≤ w1.heap.size := B1.size
        have hoV : Only (fun i => (Value.slice p0 k c0).ownBlock = some i) w1 w4 := (Only.alloc _ _ _).trans (Only.of_grown hgrow (fun k e => e))
        have hnoB : ∀ i, (Value.slice p0 k c0).ownBlock = some i → V.heap.size + 2 ≤ i ∧ i < X.heap.size := fun i e => ⟨own_block_base H3.out e, (own_block_lt H3.out e).1⟩
        have hbx4 : Boxed w4 oB 65 (.slice p0 k c0) := hoV.obj (below_box B1 H1.out) (fun e => by have := hnoB _ e; omega)
        have co4 := hbx4.cell
        have cf4 := hbx4.frozen
        have hoF1 : Only (fun i => (Value.slice p0 k c0).ownBlock = some i ∨ i = oB) w1 (w4.setCell ⟨oB, 0, none⟩ (.slice p4 (k + 1) c4)) := (hoV.mono (fun i _ e => .inl e)).trans (Only.set (F := fun i => (Value.slice p0 k c0).ownBlock = some i ∨ i = oB) w4 oB 0 _ (.inr rfl))
        have hoF : Only (fun i => (Value.slice p0 k c0).ownBlock = some i ∨ i = oB) X (w4.setCell ⟨oB, 0, none⟩ (.slice p4 (k + 1) c4)) := (Only.fresh B1 _).trans hoF1
        have HQ : Hid (roundEndS V.heap.size (PaI V oB (epochsL ks)) (fun _ _ _ _ => False) S k X .normal { tmps := #[], defers := [] } (w4.setCell ⟨oB, 0, none⟩ (.slice p4 (k + 1) c4))) := by
          refine hide ⟨fun i hi => hoF.block i ?_ ?_, hoF.size, p4, c4, vs ++ [.slice p1 m c1], hbx4.set _, H2.out, ?_, fun b hb hs => ?_, H5.out.step hoF (fun i e => ?_), H6.out, ?_⟩
          · rcases hi with h | h | h
            · exact HS2.out i h
            · omega
            · omega
          · rintro (e | e)
            · rcases hi with h | h | h
              · exact H4.out i e h
              · have := hnoB _ e; omega
              · have := hnoB _ e; omega
            · rcases hi with h | h | h
              · exact H2.out (by rw [← e]; exact h)
              · omega
              · omega
          · rw [HTK.out, paCells_snoc H7.out.1]
            exact hown.kept (grownBy_setCell' w4 oB _) (.inr (fun e => by have := own_block_base hown e; omega))
          · rcases hwhere with h | h
            · rw [h] at hb; exact H4.out b hb hs
            · rw [h] at hb
              simp only [World.size_alloc, Option.some.injEq] at hb
              have := HS2.out b hs
              omega
          · rcases e with e | e
            · exact .inr (by have := hnoB _ e; omega)
            · exact .inl e
          · rw [HTK.out]
            refine PaL.snoc (H7.out.step hoF (fun i e => ?_) (fun _ _ h => h)) ⟨p1, c1, ?_, ?_, fun b hb hs => ?_⟩
            · rcases e with e | e
              · obtain ⟨_, cur, h7⟩ := own_block_lt H3.out e
                exact .inr ⟨_, _, _, h7, by decide⟩
              · exact .inr ⟨_, _, _, by rw [e]; exact H1.out, by decide⟩
            · show Value.slice p1 m c1 = .slice p1 rs.length c1
              rw [HM.out]
            · show World.ownsRow _ _ _ 2 (.slice p1 rs.length c1) rs.length _
              rw [HM.out]
              refine ownsRow_base (ownsRow_only O1.out hoF1 (fun b hb e => ?_)) (by show _ ≤ X.heap.size; omega)
              have hb0 : X.heap.size ≤ b := own_block_base O1.out hb
              rcases e with e | e
              · have := hnoB _ e; omega
              · omega
            · have hb0 : X.heap.size ≤ b := own_block_base O1.out hb
              have := HS2.out b hs
              omega
        clear hown hgrow hwhere hoV hnoB hbx4 hoF hoF1
        refine hK _ _ ?_
        clear hK K
        refine wpAnyIn_ready (rs := [7]) (by kernel_rfl) (by simp) ?_
        refine AllReadyIn.cons rfl (fun K hK => ?_) ?_
        rotate_left
        · exact AllReadyIn.nil
        go_simp
        refine hK _ _ ?_
        clear hK K
        refine wpAnyIn_done (by kernel_rfl) ?_ _
        exact HQ.out
      refine AllReadyIn.cons rfl (fun K hK => ?_) ?_
      · go_simp
        have B2 : Below X.heap.size X (w1.alloc (.cells #[.int .i64 id, .slice p1 m c1] 56 (0, 0))) := B1.trans ((alloc_below w1 _).mono B1.size)
        have cV := HCO.out _ B2
        refine hK _ _ ?_
        clear hK K
        refine wpAnyIn_ready (rs := [0]) (by kernel_rfl) (by simp) ?_
        refine AllReadyIn.cons rfl (fun K hK => ?_) ?_
        rotate_left
        · exact AllReadyIn.nil
        go_simp
        refine hK _ _ ?_
        clear hK K
        refine wpAnyIn_ready (rs := [6]) (by kernel_rfl) (by simp) ?_
        refine AllReadyIn.cons rfl (fun K hK => ?_) ?_
        rotate_left
        · exact AllReadyIn.nil
        refine stepIn_append_at rfl (.tmp 9) (.tmp 14) 65 rfl (V.heap.size + 2) 56 i0 (.agg #[.int .i64 0, .slice none 0 0]) 2 32 Try.underlying65 hI0 hz0 hz1 hz2 rfl (by decide) (.slice p0 k c0) k _ rfl (ownsRow_later H3.out B2) ⟨w1.heap.size, 0, none⟩ 1 1 [.int .i64 id, .slice p1 m c1] rfl rfl (World.news_of_block (heap_alloc_new w1 _)) (by simp [Value.oneCell']) (by unfold maxLen; omega) (by omega) (by have := B2.size; omega) ?_
        intro v4 w4 hown hgrow hwhere
        obtain ⟨p4, c4, rfl, _, _⟩ := own_form hown
        have hw1 : X.heap.size ≤ w1.heap.size := B1.size
        have hoV : Only (fun i => (Value.slice p0 k c0).ownBlock = some i) w1 w4 := (Only.alloc _ _ _).trans (Only.of_grown hgrow (fun k e => e))
        have hnoB : ∀ i, (Value.slice p0 k c0).ownBlock = some i → V.heap.size + 2 ≤ i ∧ i < X.heap.size := fun i e => ⟨own_block_base H3.out e, (own_block_lt H3.out e).1⟩
        have hbx4 : Boxed w4 oB 65 (.slice p0 k c0) := hoV.obj (below_box B1 H1.out) (fun e => by have := hnoB _ e; omega)
        have co4 := hbx4.cell
        have cf4 := hbx4.frozen
        have hoF1 : Only (fun i => (Value.slice p0 k c0).ownBlock = some i ∨ i = oB) w1 (w4.setCell ⟨oB, 0, none⟩ (.slice p4 (k + 1) c4)) := (hoV.mono (fun i _ e => .inl e)).trans (Only.set (F := fun i => (Value.slice p0 k c0).ownBlock = some i ∨ i = oB) w4 oB 0 _ (.inr rfl))
        have hoF : Only (fun i => (Value.slice p0 k c0).ownBlock = some i ∨ i = oB) X (w4.setCell ⟨oB, 0, none⟩ (.slice p4 (k + 1) c4)) := (Only.fresh B1 _).trans hoF1
        have HQ : Hid (roundEndS V.heap.size (PaI V oB (epochsL ks)) (fun _ _ _ _ => False) S k X .normal { tmps := #[], defers := [] } (w4.setCell ⟨oB, 0, none⟩ (.slice p4 (k + 1) c4))) := by
          refine hide ⟨fun i hi => hoF.block i ?_ ?_, hoF.size, p4, c4, vs ++ [.slice p1 m c1], hbx4.set _, H2.out, ?_, fun b hb hs => ?_, H5.out.step hoF (fun i e => ?_), H6.out, ?_⟩
          · rcases hi with h | h | h
            · exact HS2.out i h
            · omega
            · omega
          · rintro (e | e)
            · rcases hi with h | h | h
              · exact H4.out i e h
              · have := hnoB _ e; omega
              · have := hnoB _ e; omega
            · rcases hi with h | h | h
              · exact H2.out (by rw [← e]; exact h)
              · omega
              · omega
          · rw [HTK.out, paCells_snoc H7.out.1]
            exact hown.kept (grownBy_setCell' w4 oB _) (.inr (fun e => by have := own_block_base hown e; omega))
          · rcases hwhere with h | h
            · rw [h] at hb; exact H4.out b hb hs
            · rw [h] at hb
              simp only [World.size_alloc, Option.some.injEq] at hb
              have := HS2.out b hs
              omega
          · rcases e with e | e
            · exact .inr (by have := hnoB _ e; omega)
            · exact .inl e
          · rw [HTK.out]
            refine PaL.snoc (H7.out.step hoF (fun i e => ?_) (fun _ _ h => h)) ⟨p1, c1, ?_, ?_, fun b hb hs => ?_⟩
            · rcases e with e | e
              · obtain ⟨_, cur, h7⟩ := own_block_lt H3.out e
                exact .inr ⟨_, _, _, h7, by decide⟩
              · exact .inr ⟨_, _, _, by rw [e]; exact H1.out, by decide⟩
            · show Value.slice p1 m c1 = .slice p1 rs.length c1
              rw [HM.out]
            · show World.ownsRow _ _ _ 2 (.slice p1 rs.length c1) rs.length _
              rw [HM.out]
              refine ownsRow_base (ownsRow_only O1.out hoF1 (fun b hb e => ?_)) (by show _ ≤ X.heap.size; omega)
              have hb0 : X.heap.size ≤ b := own_block_base O1.out hb
              rcases e with e | e
              · have := hnoB _ e; omega
              · omega
            · have hb0 : X.heap.size ≤ b := own_block_base O1.out hb
              have := HS2.out b hs
              omega
        clear hown hgrow hwhere hoV hnoB hbx4 hoF hoF1
        refine hK _ _ ?_
        clear hK K
        refine wpAnyIn_ready (rs := [7]) (by kernel_rfl) (by simp) ?_
        refine AllReadyIn.cons rfl (fun K hK => ?_) ?_
        rotate_left
        · exact AllReadyIn.nil
        go_simp
        refine hK _ _ ?_
        clear hK K
        refine wpAnyIn_done (by kernel_rfl) ?_ _
        exact HQ.out
      exact AllReadyIn.nil
    exact AllReadyIn.nil
  case done =>
    rintro D S X hD ⟨p, c, vs, h1, h2, h3, h4, h5, h6, h7⟩ hK
    rw [List.take_length] at h3 h7
    rw [HLL.out] at h1 h3
    have co := h1.cell
    have HK := hide hK
    have HRW := hide h3
    have H7 := hide h7
    have HB : Hid (Below W.heap.size W X) := hide (HVB.out.trans (h5.below HVB.out.size (fun i e => by have e' : i = oB := e; omega)))
    clear h1 h2 h3 h4 h5 h6 h7 hK
    gi_wp2
    refine ⟨by simp, .inl ⟨_, _, rfl, run_takeDeferred HK.out, ?_⟩⟩
    refine ⟨_, results_tmp rfl _ _ _, p, c, vs, rfl, ?_, ⟨H7.out.1, fun j e v g1 g2 => ?_⟩, ?_⟩
    · exact ownsRow_base (ownsRow_only HRW.out put_onlyS (fun b hb e => by have e' : b = D := e; have := own_block_base HRW.out hb; omega)) (by have := HVB.out.size; omega)
    · obtain ⟨p, c, rfl, g3, _⟩ := H7.out.2 j e v g1 g2
      exact ⟨p, c, rfl, ownsRow_base (ownsRow_only g3 put_onlyS (fun b hb e => by have e' : b = D := e; have := own_block_base g3 hb; omega)) (by have := HVB.out.size; omega), fun _ _ h => h⟩
    · exact HB.out.trans (put_onlyS.below HB.out.size (fun i e => by have e' : i = D := e; have := HVB.out.size; omega))
  case stop =>
    rintro D c S k X hD hk h hK
    exact False.elim h
end Go.Proofs.Ytihbdlbnpkmafaa
