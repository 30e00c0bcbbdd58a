/-
  The numbers of a task's state, behind others: addTask. The conditions: lengths.
-/
import Derived.Test.YtlfipmieaabagaaGreatFla
import Derived.Test.YtlfipmieaabagaaGreatByt
import Derived.Test.YtlfipmieaabagaaGreatFld
namespace Go.Proofs.YtlfipmieaabagaaGreat
open Go.RowKit Go.Shelf

/-- append, at a plain operation: where the row lies then. -/
theorem append_atN {P : Program} (w : World) {ops : Array Oper} {rest : List Oper} {o : Oper} {a : Act} {Q : Exit → Act → World → Prop} (hgd : o.guard = none) (s x : Operand) (t : TypeId)
    (ho : o.op = .call { callee := .builtin .append, args := #[s, x], argTypes := #[t, t] })
    (base : Nat) (e : TypeId) (i : TypeInfo) (z : Value) (size bytes : Nat) (ht : P.underlying t = some (.slice e)) (hi : P.info? e = some i) (hz : i.zero = some z)
    (hsize : i.size = size) (hby : i.bytes = bytes) (hzs : z.cells.size = size) (hsz : 0 < size)
    (v : Value) (n : Nat) (xs : List Value) (hs : a.eval s = v) (hown : w.ownsRow base e size v n xs)
    (ad : Addr) (m c : Nat) (news : List Value) (hx : a.eval x = .slice (some ad) m c) (hl : news.length = m * size) (hnews : ∀ j u, news[j]? = some u → w.cell? (ad.add j) = some u) (h1 : ∀ u ∈ news, u.oneCell' = true) (h63 : n + m ≤ maxLen) (hbytes : (n + m) * bytes ≤ 140737488355328) (hbase : base ≤ w.heap.size)
    (h : ∀ p' c' w', w'.ownsRow base e size (.slice p' (n + m) c') (n + m) (xs ++ news) → w.grownBy w' v.ownBlock → ((Value.slice p' (n + m) c').ownBlock = v.ownBlock ∨ (Value.slice p' (n + m) c').ownBlock = some w.heap.size) → wpList P ops Q rest (a.put o.dst (.slice p' (n + m) c')) w') : wpList P ops Q (o :: rest) a w := by
  refine wpList_plain hgd fun K hK => ?_
  obtain ⟨v', w', hr, h2, h3, _, h4⟩ := run_append_own_at (P := P) w base t o.type e i z size bytes ht hi hz hsize hby hzs hsz v n xs hown ad m c news hl hnews h1 h63 hbytes hbase
  obtain ⟨p', c', rfl, _, _⟩ := own_form h2
  unfold Oper.wp execOp
  simp only [ho, resolve, invoke, builtin, Sem.run_bind, Sem.run_pure, Result.andThen_ok, List.map_toArray, List.map_cons, List.map_nil, hs, hx, hr]
  exact hK _ _ (h p' c' w' h2 h3 h4)
/-- Numbers that grow behind v0, in memory that was made behind W0. -/
structure NI (W0 W : World) (v0 : Value) (X : World) (p : Option Addr) (c m : Nat) (l : List Int) : Prop where
  row : X.ownsRow W0.heap.size 2 1 (.slice p m c) m (l.map (Value.int .i64))
  loc : ∀ i, (Value.slice p m c).ownBlock = some i → v0.ownBlock = some i ∨ W.heap.size ≤ i
  only : Only (fun i => v0.ownBlock = some i) W X
  low : W0.heap.size ≤ X.heap.size
theorem NI.later {W0 W X X' : World} {v0 : Value} {p : Option Addr} {c m : Nat} {l : List Int} (h : NI W0 W v0 X p c m l) (hb : Below X.heap.size X X') : NI W0 W v0 X' p c m l :=
  ⟨ownsRow_later h.row hb, h.loc, h.only.trans (Only.fresh hb _), Nat.le_trans h.low hb.size⟩
theorem NI.push {W0 W X w6 : World} {v0 : Value} {p p6 : Option Addr} {c c6 m k : Nat} {l ks : List Int} {news : List Value} (h : NI W0 W v0 X p c m l) (o6 : w6.ownsRow W0.heap.size 2 1 (.slice p6 (m + k) c6) (m + k) (l.map (Value.int .i64) ++ news)) (g6 : X.grownBy w6 (Value.slice p m c).ownBlock) (l6 : (Value.slice p6 (m + k) c6).ownBlock = (Value.slice p m c).ownBlock ∨ ∃ s, (Value.slice p6 (m + k) c6).ownBlock = some s ∧ X.heap.size ≤ s) (hk : ks.map (Value.int .i64) = news) : NI W0 W v0 w6 p6 c6 (m + k) (l ++ ks) := by
  have ho := Only.of_grown (F := fun i => (Value.slice p m c).ownBlock = some i) g6 (fun k e => e)
  refine ⟨by rw [List.map_append, hk]; exact o6, fun i hi => ?_, h.only.step ho (fun i e => h.loc i e), Nat.le_trans h.low ho.size⟩
  rcases l6 with e | ⟨s, e, hs⟩
  · rw [e] at hi; exact h.loc i hi
  · rw [e] at hi
    simp only [Option.some.injEq] at hi
    have := h.only.size
    exact .inr (by omega)
theorem NI.box {W0 W X w6 : World} {v0 : Value} {p : Option Addr} {c m b : Nat} {l : List Int} {cs : Array Value} {t : TypeId} (h : NI W0 W v0 X p c m l) (g6 : X.grownBy w6 (Value.slice p m c).ownBlock) (hb : X.heap[b]? = some (.cells cs t (0, 0))) (ht : t ≠ 2) : w6.heap[b]? = some (.cells cs t (0, 0)) :=
  (Only.of_grown (F := fun i => (Value.slice p m c).ownBlock = some i) g6 (fun k e => e)).obj hb (fun e => by
    obtain ⟨_, cur, h3⟩ := own_block_lt h.row e
    rw [hb] at h3
    simp at h3
    exact ht h3.2)
theorem NI.below {W0 W X : World} {v0 : Value} {p : Option Addr} {c m : Nat} {l : List Int} (h : NI W0 W v0 X p c m l) (hB : Below W0.heap.size W0 W) (hv : ∀ i, v0.ownBlock = some i → W0.heap.size ≤ i) : Below W0.heap.size W0 X :=
  hB.trans (h.only.below hB.size hv)
def numK (x : Op.KS) : List Int := [x.key, x.cnt, x.acc]
def numR (r : RC) : List Int := [r.key, r.val]
theorem numR_len : ∀ rs : List RC, (rs.flatMap numR).length = 2 * rs.length
  | [] => rfl
  | r :: rs => by rw [List.flatMap_cons, List.length_append, numR_len rs, List.length_cons]; show 2 + _ = _; omega
def numB (x : SV) : List Int := (x.rs.length : Int) :: x.rs.flatMap numR
def numT (ks : List Op.KS) (tn : Int) (xs : List SV) : List Int := [tn, (ks.length : Int)] ++ ks.flatMap numK ++ [(xs.length : Int)] ++ xs.flatMap numB
set_option maxRecDepth 100000 in
set_option maxHeartbeats 16000000 in
theorem addTask_any {W0 W : World} {p kp bp : Option Addr} {n c nk kc nb bc : Nat} {tn : Int} {l : List Int} {ks : List Op.KS} {xs : List SV} (hr : W.ownsRow W0.heap.size 2 1 (.slice p n c) n (l.map (Value.int .i64))) (hB : Below W0.heap.size W0 W) (hK : Op.KRow W0 kp kc ks) (hnk : ks.length = nk) (hL : LL W0 bp bc xs) (hnb : xs.length = nb) (hbig : n + (numT ks tn xs).length ≤ 1099511627776) :
    Calls Tryz.prog 47 #[.slice p n c, .agg #[.slice kp nk kc, .int .i64 tn, .slice bp nb bc]] W fun e w' => ∃ p' c' m, e = .returned (.slice p' m c') ∧ n + (numT ks tn xs).length = m ∧ NI W0 W (.slice p n c) w' p' c' m (l ++ numT ks tn xs) := by
  obtain ⟨j0, hj0, hj1, hj2, hj3⟩ := info_parts Tryz.infoN
  obtain ⟨V, hV⟩ : ∃ V, V = W.alloc (.cells #[.slice kp nk kc, .int .i64 tn, .slice bp nb bc] 46 (0, 0)) := ⟨_, rfl⟩
  have bV : Below W.heap.size W V := by rw [hV]; exact alloc_below _ _
  obtain ⟨tB, htB⟩ : ∃ tB, W.heap.size = tB := ⟨_, rfl⟩
  have HTB : V.heap[tB]? = some (.cells #[.slice kp nk kc, .int .i64 tn, .slice bp nb bc] 46 (0, 0)) := by rw [hV, ← htB]; exact heap_alloc_new W _
  have HI : NI W0 W (.slice p n c) V p c n l := NI.later ⟨hr, fun i e => .inl e, Only.refl _ _, hB.size⟩ bV
  have HV0 : Hid (∀ i, (Value.slice p n c).ownBlock = some i → W0.heap.size ≤ i) := hide (fun i e => own_block_base hr e)
  have HB := hide hB
  have HK := hide hK
  have HNK := hide hnk
  have HL := hide hL
  have HNB := hide hnb
  obtain ⟨y0, y1, y2⟩ := tsBox3 HTB
  have hkl : (ks.flatMap numK).length = 3 * nk := by rw [← hnk]; clear hK hnk HK HNK hbig; induction ks with
    | nil => rfl
    | cons x ks ih => rw [List.flatMap_cons, List.length_append, ih, List.length_cons]; show 3 + _ = _; omega
  have hT : (numT ks tn xs).length = 2 + 3 * nk + 1 + (xs.flatMap numB).length := by unfold numT; simp only [List.length_append, List.length_cons, List.length_nil, hkl]
  have z0 := hK.1
  have z1 := hK.2.1
  have z2 := hL.row.le
  have z3 := hL.row.top
  rw [hnk] at z0
  rw [hnb] at z2
  rw [hT] at hbig
  have HT := hide hT
  clear hr hB hK hnk hL hnb hkl bV hT
  go_enter Tryz.func47, Tryz.ntmps47
  go_upto_region 1 with fail
  rw [← hV]
  try rw [htB]
  clear hV htB
  have HR1 := hide (HI.later (alloc_below V (.cells #[.int .i64 tn, .int .i64 (nk : Int)] 2 (0, 0))))
  have HQ1 : Hid (n + 2 ≤ maxLen) := by show _ ≤ _; unfold maxLen; omega
  have HP1 : Hid ((n + 2) * 8 ≤ 140737488355328) := hide (by omega)
  have HZ1 : Hid (W0.heap.size ≤ (V.alloc (.cells #[.int .i64 tn, .int .i64 (nk : Int)] 2 (0, 0))).heap.size) := hide (Nat.le_trans HI.low (by simp))
  go_wp2_with (at_builtin; refine append_atN _ rfl (.tmp 11) (.tmp 19) 25 rfl W0.heap.size 2 j0 (.int .i64 0) 1 8 Tryz.underlying25 hj0 hj1 hj2 hj3 rfl (by decide) (.slice p n c) n _ rfl HR1.out.row ⟨V.heap.size, 0, none⟩ 2 2 [.int .i64 tn, .int .i64 (nk : Int)] rfl rfl (World.news_of_block (heap_alloc_new V _)) (by simp [Value.oneCell']) HQ1.out HP1.out HZ1.out ?_)
  intro p1 c1 w1 o1 g1 l1
  have HJ1 := hide (HR1.out.push (ks := [tn, (nk : Int)]) o1 g1 (l1.elim .inl (fun e => .inr ⟨_, e, by simp⟩)) rfl)
  have HX1 : Hid (w1.heap[tB]? = some (.cells #[.slice kp nk kc, .int .i64 tn, .slice bp nb bc] 46 (0, 0))) := hide (HR1.out.box g1 (below_box (alloc_below V _) HTB) (by decide))
  clear o1 g1 l1 HR1 HQ1 HP1 HZ1
  clear HI HTB y0 y1 y2
  obtain ⟨y0, y1, y2⟩ := tsBox3 HX1.out
  go_wp2_with fail
  clear y0 y1 y2
  go_loopw [0, 25] (fun s i wq => ∃ (k : Nat) (q : Option Addr) (qc : Nat), k ≤ nk ∧ i = .int .i64 (k : Int) ∧ s = .slice q (n + 2 + 3 * k) qc ∧ Hid (NI W0 W (.slice p n c) wq q qc (n + 2 + 3 * k) (l ++ [tn, (nk : Int)] ++ (ks.take k).flatMap numK)) ∧ Hid (wq.heap[tB]? = some (.cells #[.slice kp nk kc, .int .i64 tn, .slice bp nb bc] 46 (0, 0)))) (fun _ i _ => nk - (intOf i).toNat)
  case atStart => exact ⟨0, p1, c1, Nat.zero_le _, rfl, rfl, hide (by simpa using HJ1.out), HX1⟩
  case round =>
    obtain ⟨k, q, qc, hk, rfl, rfl, HJ, HX⟩ := hrel
    rename World => wq
    clear HJ1 HX1
    by_cases hlt : k < nk
    · have hltk : k < ks.length := by rw [HNK.out]; exact hlt
      obtain ⟨_, _, _, hcs⟩ := Op.KRow.later HK.out (HJ.out.below HB.out HV0.out)
      obtain ⟨ga, oa, rfl, hc⟩ := hcs k hltk
      obtain ⟨x, hx⟩ : ∃ x, ks[k]! = x := ⟨_, rfl⟩
      have etk : ks.take (k + 1) = ks.take k ++ [x] := by rw [List.take_succ_eq_append_getElem hltk, ← hx, getElem!_pos ks k hltk]
      rw [hx] at hc
      obtain ⟨ky, ct, ac⟩ := x
      have d0 : wq.cell? ⟨ga, oa + k * 3, none⟩ = some (.int .i64 ky) := hc 0 (by omega)
      have d1 : wq.cell? ⟨ga, oa + k * 3 + 1, none⟩ = some (.int .i64 ct) := hc 1 (by omega)
      have d2 : wq.cell? ⟨ga, oa + k * 3 + 2, none⟩ = some (.int .i64 ac) := hc 2 (by omega)
      obtain ⟨X1, hX1⟩ : ∃ X, X = wq.alloc (.cells #[.int .i64 ky, .int .i64 ct, .int .i64 ac] 48 (0, 0)) := ⟨_, rfl⟩
      have bX1 : Below wq.heap.size wq X1 := by rw [hX1]; exact alloc_below _ _
      have ux : X1.heap[wq.heap.size]? = some (.cells #[.int .i64 ky, .int .i64 ct, .int .i64 ac] 48 (0, 0)) := by rw [hX1]; exact heap_alloc_new _ _
      obtain ⟨xB, hxB⟩ : ∃ xB, wq.heap.size = xB := ⟨_, rfl⟩
      rw [hxB] at ux
      obtain ⟨y0, y1, y2⟩ := tsBox3 ux
      have HI := HJ.out.later bX1
      have HTB := below_box bX1 HX.out
      have HET := hide etk
      clear hc hcs hx ux bX1 HJ HX etk
      go_upto_region 5 with fail
      rw [← hX1]
      try rw [hxB]
      clear hX1 hxB d0 d1 d2
      obtain ⟨LA2, hLA2⟩ : ∃ LA, l ++ [tn, (nk : Int)] ++ (ks.take k).flatMap numK = LA := ⟨_, rfl⟩
      rw [hLA2] at HI
      have HLA2 := hide hLA2
      clear hLA2
      have HR2 := hide (HI.later (alloc_below X1 (.cells #[.int .i64 ky, .int .i64 ct, .int .i64 ac] 2 (0, 0))))
      have HQ2 : Hid ((n + 2 + 3 * k) + 3 ≤ maxLen) := by show _ ≤ _; unfold maxLen; omega
      have HP2 : Hid (((n + 2 + 3 * k) + 3) * 8 ≤ 140737488355328) := hide (by omega)
      have HZ2 : Hid (W0.heap.size ≤ (X1.alloc (.cells #[.int .i64 ky, .int .i64 ct, .int .i64 ac] 2 (0, 0))).heap.size) := hide (Nat.le_trans HI.low (by simp))
      go_wp2_with (at_builtin; refine append_atN _ rfl (.tmp 29) (.tmp 36) 25 rfl W0.heap.size 2 j0 (.int .i64 0) 1 8 Tryz.underlying25 hj0 hj1 hj2 hj3 rfl (by decide) (.slice q (n + 2 + 3 * k) qc) (n + 2 + 3 * k) _ rfl HR2.out.row ⟨X1.heap.size, 0, none⟩ 3 3 [.int .i64 ky, .int .i64 ct, .int .i64 ac] rfl rfl (World.news_of_block (heap_alloc_new X1 _)) (by simp [Value.oneCell']) HQ2.out HP2.out HZ2.out ?_)
      intro p2 c2 w2 o2 g2 l2
      have HJ2 := hide (HR2.out.push (ks := [ky, ct, ac]) o2 g2 (l2.elim .inl (fun e => .inr ⟨_, e, by simp⟩)) rfl)
      have HX2 : Hid (w2.heap[tB]? = some (.cells #[.slice (some ⟨ga, oa, none⟩) nk kc, .int .i64 tn, .slice bp nb bc] 46 (0, 0))) := hide (HR2.out.box g2 (below_box (alloc_below X1 _) HTB) (by decide))
      clear o2 g2 l2 HR2 HQ2 HP2 HZ2
      have e9 : n + 2 + 3 * k + 3 = n + 2 + 3 * (k + 1) := by omega
      have HJF : Hid (NI W0 W (.slice p n c) w2 p2 c2 (n + 2 + 3 * (k + 1)) (l ++ [tn, (nk : Int)] ++ (ks.take (k + 1)).flatMap numK)) := by
        rw [← e9, HET.out, List.flatMap_append, ← List.append_assoc, HLA2.out]
        exact HJ2
      rw [e9]
      clear HI HTB y0 y1 y2 HJ2 e9
      go_wp2
      exact ⟨⟨k + 1, p2, c2, by omega, by first | rfl | go_num, rfl, HJF, HX2⟩, by simp [intOf]; omega⟩
    · have hkn : k = nk := by omega
      subst hkn
      have hte : ks.take k = ks := List.take_of_length_le (by rw [HNK.out]; exact Nat.le_refl _)
      rw [hte] at HJ
      have HI := HJ.out
      have HTB := HX.out
      obtain ⟨y0, y1, y2⟩ := tsBox3 HTB
      clear hte HJ HX
      obtain ⟨LA3, hLA3⟩ : ∃ LA, l ++ [tn, (k : Int)] ++ ks.flatMap numK = LA := ⟨_, rfl⟩
      rw [hLA3] at HI
      have HLA3 := hide hLA3
      clear hLA3
      have HR3 := hide (HI.later (alloc_below wq (.cells #[.int .i64 (nb : Int)] 2 (0, 0))))
      have HQ3 : Hid ((n + 2 + 3 * k) + 1 ≤ maxLen) := by show _ ≤ _; unfold maxLen; omega
      have HP3 : Hid (((n + 2 + 3 * k) + 1) * 8 ≤ 140737488355328) := hide (by omega)
      have HZ3 : Hid (W0.heap.size ≤ (wq.alloc (.cells #[.int .i64 (nb : Int)] 2 (0, 0))).heap.size) := hide (Nat.le_trans HI.low (by simp))
      go_wp2_with (at_builtin; refine append_atN _ rfl (.tmp 39) (.tmp 43) 25 rfl W0.heap.size 2 j0 (.int .i64 0) 1 8 Tryz.underlying25 hj0 hj1 hj2 hj3 rfl (by decide) (.slice q (n + 2 + 3 * k) qc) (n + 2 + 3 * k) _ rfl HR3.out.row ⟨wq.heap.size, 0, none⟩ 1 1 [.int .i64 (nb : Int)] rfl rfl (World.news_of_block (heap_alloc_new wq _)) (by simp [Value.oneCell']) HQ3.out HP3.out HZ3.out ?_)
      intro p3 c3 w3 o3 g3 l3
      have HJ3 := hide (HR3.out.push (ks := [(nb : Int)]) o3 g3 (l3.elim .inl (fun e => .inr ⟨_, e, by simp⟩)) rfl)
      have HX3 : Hid (w3.heap[tB]? = some (.cells #[.slice kp k kc, .int .i64 tn, .slice bp nb bc] 46 (0, 0))) := hide (HR3.out.box g3 (below_box (alloc_below wq _) HTB) (by decide))
      clear o3 g3 l3 HR3 HQ3 HP3 HZ3
      clear HI HTB y0 y1 y2
      obtain ⟨y0, y1, y2⟩ := tsBox3 HX3.out
      obtain ⟨N, hN⟩ : ∃ N, n + 2 + 3 * k + 1 = N := ⟨_, rfl⟩
      obtain ⟨L0, hL0⟩ : ∃ L0, l ++ [tn, (k : Int)] ++ ks.flatMap numK ++ [(nb : Int)] = L0 := ⟨_, rfl⟩
      rw [HLA3.out] at hL0
      rw [hN, hL0] at HJ3
      rw [hN]
      have HNN := hide hN
      rw [← HLA3.out] at hL0
      have HLL := hide hL0
      have hbN : N + (xs.flatMap numB).length ≤ 1099511627776 := by omega
      clear hN hL0
      go_wp2_with fail
      clear y0 y1 y2
      go_loopw [0, 48] (fun s i wr => ∃ (j : Nat) (r : Option Addr) (rc m : Nat), j ≤ nb ∧ i = .int .i64 (j : Int) ∧ s = .slice r m rc ∧ Hid (N + ((xs.take j).flatMap numB).length = m) ∧ Hid (NI W0 W (.slice p n c) wr r rc m (L0 ++ (xs.take j).flatMap numB)) ∧ Hid (wr.heap[tB]? = some (.cells #[.slice kp k kc, .int .i64 tn, .slice bp nb bc] 46 (0, 0)))) (fun _ i _ => nb - (intOf i).toNat)
      case atStart => exact ⟨0, p3, c3, N, Nat.zero_le _, rfl, rfl, hide (by simp), hide (by simpa using HJ3.out), HX3⟩
      case round =>
        obtain ⟨j, r, rc, m, hj, rfl, rfl, HM, HJ, HX⟩ := hrel
        rename World => wr
        clear HJ3 HX3
        by_cases hlj : j < nb
        · have hltj : j < xs.length := by rw [HNB.out]; exact hlj
          have hll := HL.out.later (HJ.out.below HB.out HV0.out)
          obtain ⟨g2, o2, rfl, hcx⟩ := hll.at hltj
          have hxm : xs[j]! ∈ xs := by rw [getElem!_pos xs j hltj]; exact List.getElem_mem _
          have hrow := hll.ok _ hxm
          obtain ⟨x, hx⟩ : ∃ x, xs[j]! = x := ⟨_, rfl⟩
          have etk : xs.take (j + 1) = xs.take j ++ [x] := by rw [List.take_succ_eq_append_getElem hltj, ← hx, getElem!_pos xs j hltj]
          have hle : ((xs.take (j + 1)).flatMap numB).length ≤ (xs.flatMap numB).length := by
            conv => rhs; rw [← List.take_append_drop (j + 1) xs, List.flatMap_append, List.length_append]
            omega
          rw [etk, List.flatMap_append, List.length_append] at hle
          rw [hx] at hcx hrow
          obtain ⟨rs, xp, xc⟩ := x
          have hrow2 : RRow W0 xp xc rs := HL.out.ok ⟨rs, xp, xc⟩ (by rw [← hx]; exact hxm)
          simp only at hcx
          obtain ⟨R, hR⟩ : ∃ R, rs.length = R := ⟨_, rfl⟩
          rw [hR] at hcx
          have hnB : (([⟨rs, xp, xc⟩] : List SV).flatMap numB).length = 1 + 2 * R := by
            simp only [List.flatMap_cons, List.flatMap_nil, List.append_nil, numB, List.length_cons]
            rw [numR_len, hR]
            omega
          rw [hnB] at hle
          have hm9 := HM.out
          have z4 := hrow.le
          have z5 := hrow.top
          rw [hR] at z4
          have HRW := hide hrow2
          have HRR := hide hR
          have HET := hide etk
          have HI := HJ.out
          have HTB := HX.out
          have hbm : m + 1 + 2 * R ≤ 1099511627776 := by omega
          clear hll hxm hrow hrow2 hx etk hle hnB hm9 hR HJ HX
          go_upto_region 11 with fail
          obtain ⟨LA4, hLA4⟩ : ∃ LA, L0 ++ (xs.take j).flatMap numB = LA := ⟨_, rfl⟩
          rw [hLA4] at HI
          have HLA4 := hide hLA4
          clear hLA4
          have HR4 := hide (HI.later (alloc_below wr (.cells #[.int .i64 (R : Int)] 2 (0, 0))))
          have HQ4 : Hid (m + 1 ≤ maxLen) := by show _ ≤ _; unfold maxLen; omega
          have HP4 : Hid ((m + 1) * 8 ≤ 140737488355328) := hide (by omega)
          have HZ4 : Hid (W0.heap.size ≤ (wr.alloc (.cells #[.int .i64 (R : Int)] 2 (0, 0))).heap.size) := hide (Nat.le_trans HI.low (by simp))
          go_wp2_with (at_builtin; refine append_atN _ rfl (.tmp 52) (.tmp 55) 25 rfl W0.heap.size 2 j0 (.int .i64 0) 1 8 Tryz.underlying25 hj0 hj1 hj2 hj3 rfl (by decide) (.slice r m rc) m _ rfl HR4.out.row ⟨wr.heap.size, 0, none⟩ 1 1 [.int .i64 (R : Int)] rfl rfl (World.news_of_block (heap_alloc_new wr _)) (by simp [Value.oneCell']) HQ4.out HP4.out HZ4.out ?_)
          intro p4 c4 w4 o4 g4 l4
          have HJ4 := hide (HR4.out.push (ks := [(R : Int)]) o4 g4 (l4.elim .inl (fun e => .inr ⟨_, e, by simp⟩)) rfl)
          have HX4 : Hid (w4.heap[tB]? = some (.cells #[.slice kp k kc, .int .i64 tn, .slice (some ⟨g2, o2, none⟩) nb bc] 46 (0, 0))) := hide (HR4.out.box g4 (below_box (alloc_below wr _) HTB) (by decide))
          clear o4 g4 l4 HR4 HQ4 HP4 HZ4
          clear HI HTB hcx
          go_wp2_with fail
          go_loopw [0, 59] (fun s i wv => ∃ (h : Nat) (u : Option Addr) (uc : Nat), h ≤ R ∧ i = .int .i64 (h : Int) ∧ s = .slice u (m + 1 + 2 * h) uc ∧ Hid (NI W0 W (.slice p n c) wv u uc (m + 1 + 2 * h) (L0 ++ (xs.take j).flatMap numB ++ [(R : Int)] ++ (rs.take h).flatMap numR)) ∧ Hid (wv.heap[tB]? = some (.cells #[.slice kp k kc, .int .i64 tn, .slice (some ⟨g2, o2, none⟩) nb bc] 46 (0, 0)))) (fun _ i _ => R - (intOf i).toNat)
          case atStart => exact ⟨0, p4, c4, Nat.zero_le _, rfl, rfl, hide (by rw [HLA4.out, List.take_zero, List.flatMap_nil, List.append_nil]; exact HJ4.out), HX4⟩
          case round =>
            obtain ⟨h, u, uc, hh, rfl, rfl, HJ, HX⟩ := hrel
            rename World => wv
            clear HJ4 HX4
            by_cases hlh : h < R
            · have hlth : h < rs.length := by rw [HRR.out]; exact hlh
              obtain ⟨x, hx⟩ : ∃ x, rs[h]! = x := ⟨_, rfl⟩
              obtain ⟨g3, o3, rfl, d0, d1⟩ := (RRow.later HRW.out (HJ.out.below HB.out HV0.out)).at hlth hx
              have eth : rs.take (h + 1) = rs.take h ++ [x] := by rw [List.take_succ_eq_append_getElem hlth, ← hx, getElem!_pos rs h hlth]
              obtain ⟨ky, vl⟩ := x
              simp only at d0 d1
              obtain ⟨X1, hX1⟩ : ∃ X, X = wv.alloc (.cells #[.int .i64 ky, .int .i64 vl] 51 (0, 0)) := ⟨_, rfl⟩
              have bX1 : Below wv.heap.size wv X1 := by rw [hX1]; exact alloc_below _ _
              have ux : X1.heap[wv.heap.size]? = some (.cells #[.int .i64 ky, .int .i64 vl] 51 (0, 0)) := by rw [hX1]; exact heap_alloc_new _ _
              obtain ⟨xB, hxB⟩ : ∃ xB, wv.heap.size = xB := ⟨_, rfl⟩
              rw [hxB] at ux
              have y0 : X1.cell? ⟨xB, 0, none⟩ = some (.int .i64 ky) := by simp [World.cell?, ux]
              have y1 : X1.cell? ⟨xB, 1, none⟩ = some (.int .i64 vl) := by simp [World.cell?, ux]
              have HI := HJ.out.later bX1
              have HTB := below_box bX1 HX.out
              have HEH := hide eth
              clear hx ux bX1 HJ HX eth
              go_upto_region 15 with fail
              rw [← hX1]
              try rw [hxB]
              clear hX1 hxB d0 d1
              obtain ⟨LA5, hLA5⟩ : ∃ LA, L0 ++ (xs.take j).flatMap numB ++ [(R : Int)] ++ (rs.take h).flatMap numR = LA := ⟨_, rfl⟩
              rw [hLA5] at HI
              have HLA5 := hide hLA5
              clear hLA5
              have HR5 := hide (HI.later (alloc_below X1 (.cells #[.int .i64 ky, .int .i64 vl] 2 (0, 0))))
              have HQ5 : Hid ((m + 1 + 2 * h) + 2 ≤ maxLen) := by show _ ≤ _; unfold maxLen; omega
              have HP5 : Hid (((m + 1 + 2 * h) + 2) * 8 ≤ 140737488355328) := hide (by omega)
              have HZ5 : Hid (W0.heap.size ≤ (X1.alloc (.cells #[.int .i64 ky, .int .i64 vl] 2 (0, 0))).heap.size) := hide (Nat.le_trans HI.low (by simp))
              go_wp2_with (at_builtin; refine append_atN _ rfl (.tmp 63) (.tmp 68) 25 rfl W0.heap.size 2 j0 (.int .i64 0) 1 8 Tryz.underlying25 hj0 hj1 hj2 hj3 rfl (by decide) (.slice u (m + 1 + 2 * h) uc) (m + 1 + 2 * h) _ rfl HR5.out.row ⟨X1.heap.size, 0, none⟩ 2 2 [.int .i64 ky, .int .i64 vl] rfl rfl (World.news_of_block (heap_alloc_new X1 _)) (by simp [Value.oneCell']) HQ5.out HP5.out HZ5.out ?_)
              intro p5 c5 w5 o5 g5 l5
              have HJ5 := hide (HR5.out.push (ks := [ky, vl]) o5 g5 (l5.elim .inl (fun e => .inr ⟨_, e, by simp⟩)) rfl)
              have HX5 : Hid (w5.heap[tB]? = some (.cells #[.slice kp k kc, .int .i64 tn, .slice (some ⟨g2, o2, none⟩) nb bc] 46 (0, 0))) := hide (HR5.out.box g5 (below_box (alloc_below X1 _) HTB) (by decide))
              clear o5 g5 l5 HR5 HQ5 HP5 HZ5
              have e9 : m + 1 + 2 * h + 2 = m + 1 + 2 * (h + 1) := by omega
              have HJF : Hid (NI W0 W (.slice p n c) w5 p5 c5 (m + 1 + 2 * (h + 1)) (L0 ++ (xs.take j).flatMap numB ++ [(R : Int)] ++ (rs.take (h + 1)).flatMap numR)) := by
                rw [← e9, HEH.out, List.flatMap_append, ← List.append_assoc, HLA5.out]
                exact HJ5
              rw [e9]
              clear HI HTB y0 y1 HJ5 e9
              go_wp2
              exact ⟨⟨h + 1, p5, c5, by omega, by first | rfl | go_num, rfl, HJF, HX5⟩, by simp [intOf]; omega⟩
            · have hhn : h = R := by omega
              subst hhn
              have hte : rs.take h = rs := List.take_of_length_le (by rw [HRR.out]; exact Nat.le_refl _)
              rw [hte] at HJ
              have HJF : Hid (NI W0 W (.slice p n c) wv u uc (m + 1 + 2 * h) (L0 ++ (xs.take (j + 1)).flatMap numB)) := by
                rw [HET.out, List.flatMap_append, ← List.append_assoc]
                have e8 : (([⟨rs, xp, xc⟩] : List SV).flatMap numB) = [(h : Int)] ++ rs.flatMap numR := by
                  simp only [List.flatMap_cons, List.flatMap_nil, List.append_nil, numB, HRR.out]
                  rfl
                rw [e8, ← List.append_assoc]
                exact HJ
              have HMF : Hid (N + ((xs.take (j + 1)).flatMap numB).length = m + 1 + 2 * h) := hide (by
                rw [HET.out, List.flatMap_append, List.length_append, ← Nat.add_assoc, HM.out]
                simp only [List.flatMap_cons, List.flatMap_nil, List.append_nil, numB, List.length_cons]
                rw [numR_len, HRR.out]
                omega)
              clear hte HJ
              go_wp2
              exact ⟨⟨j + 1, u, uc, m + 1 + 2 * h, by omega, by first | rfl | go_num, rfl, HMF, HJF, HX⟩, by simp [intOf]; omega⟩
        · have hjn : j = nb := by omega
          subst hjn
          have hte : xs.take j = xs := List.take_of_length_le (by rw [HNB.out]; exact Nat.le_refl _)
          rw [hte] at HJ HM
          have HF : Hid (NI W0 W (.slice p n c) wr r rc m (l ++ numT ks tn xs)) := by
            have e8 : l ++ numT ks tn xs = L0 ++ xs.flatMap numB := by
              rw [← HLL.out]
              unfold numT
              rw [HNK.out, HNB.out]
              simp only [List.append_assoc]
            rw [e8]
            exact HJ
          have HMM : Hid (n + (numT ks tn xs).length = m) := hide (by have h1 := HM.out; have h2 := HT.out; have h3 := HNN.out; omega)
          clear hte HJ HM
          go_wp2
          go_ret
          exact ⟨r, rc, m, rfl, HMM.out, HF.out⟩
end Go.Proofs.YtlfipmieaabagaaGreat

/-
  The numbers of a flow's state: numbers. The conditions: lengths.
-/
namespace Go.Proofs.YtlfipmieaabagaaGreat
open Go.RowKit Go.Shelf

/-- Numbers in new memory. -/
abbrev NW (W X : World) (p : Option Addr) (c m : Nat) (l : List Int) : Prop := NI W W (.slice none 0 0) X p c m l
theorem NW.push {W X w6 : World} {p p6 : Option Addr} {c c6 m k : Nat} {l ks : List Int} (h : NW W X p c m l) (o6 : w6.ownsRow W.heap.size 2 1 (.slice p6 (m + k) c6) (m + k) (l.map (Value.int .i64) ++ ks.map (Value.int .i64))) (g6 : X.grownBy w6 (Value.slice p m c).ownBlock) : NW W w6 p6 c6 (m + k) (l ++ ks) := by
  have ho := Only.of_grown (F := fun i => (Value.slice p m c).ownBlock = some i) g6 (fun k e => e)
  exact ⟨by rw [List.map_append]; exact o6, fun _ hi => .inr (own_block_base o6 hi), h.only.step ho (fun _ e => .inr (own_block_base h.row e)), Nat.le_trans h.low ho.size⟩
theorem NW.chain {W X w6 : World} {p p6 : Option Addr} {c c6 m m6 : Nat} {l l6 : List Int} (h : NW W X p c m l) (h6 : NI W X (.slice p m c) w6 p6 c6 m6 l6) : NW W w6 p6 c6 m6 l6 :=
  ⟨h6.row, fun _ hi => .inr (own_block_base h6.row hi), h.only.step h6.only (fun _ e => .inr (own_block_base h.row e)), h6.low⟩
theorem NW.below {W X : World} {p : Option Addr} {c m : Nat} {l : List Int} (h : NW W X p c m l) : Below W.heap.size W X := h.only.below (Nat.le_refl _) (fun i e => by simp [Value.ownBlock] at e)
theorem box4' {W : World} {b : Nat} {v0 v1 v2 v3 : Value} {t : TypeId} (fu : W.heap[b]? = some (.cells #[v0, v1, v2, v3] t (0, 0))) : W.cell? ⟨b, 0, none⟩ = some v0 ∧ W.cell? ⟨b, 1, none⟩ = some v1 ∧ W.cell? ⟨b, 2, none⟩ = some v2 ∧ W.cell? ⟨b, 3, none⟩ = some v3 :=
  ⟨by simp [World.cell?, fu], by simp [World.cell?, fu], by simp [World.cell?, fu], by simp [World.cell?, fu]⟩
def numTV (t : TV) : List Int := numT t.ks t.tn t.xs
def numF (id out : Int) (vs : List Int) (ts : List TV) : List Int := [id, (vs.length : Int)] ++ vs ++ [out, (ts.length : Int)] ++ ts.flatMap numTV
theorem cells_map (vs : List Int) : vs.flatMap intCells = vs.map (Value.int .i64) := by
  induction vs with
  | nil => rfl
  | cons v vs ih => rw [List.flatMap_cons, ih]; rfl
set_option maxRecDepth 100000 in
set_option maxHeartbeats 16000000 in
theorem numbers_any {W : World} {id out : Int} {vp tp : Option Addr} {nv vc nt tc : Nat} {vs : List Int} {ts : List TV} (hv : NRow W vp vc vs) (hnv : vs.length = nv) (ht : TRow W tp tc ts) (hnt : ts.length = nt) (hbig : (numF id out vs ts).length ≤ 1099511627776) :
    Calls Tryz.prog 17 #[.agg #[.int .i64 id, .slice vp nv vc, .int .i64 out, .slice tp nt tc]] W fun e w' => ∃ p' c' m, e = .returned (.slice p' m c') ∧ (numF id out vs ts).length = m ∧ NW W w' p' c' m (numF id out vs ts) := by
  obtain ⟨j0, hj0, hj1, hj2, hj3⟩ := info_parts Tryz.infoN
  obtain ⟨V, hV⟩ : ∃ V, V = W.alloc (.cells #[.int .i64 id, .slice vp nv vc, .int .i64 out, .slice tp nt tc] 28 (0, 0)) := ⟨_, rfl⟩
  have bV : Below W.heap.size W V := by rw [hV]; exact alloc_below _ _
  obtain ⟨sB, hsB⟩ : ∃ sB, W.heap.size = sB := ⟨_, rfl⟩
  have u0 : V.heap[sB]? = some (.cells #[.int .i64 id, .slice vp nv vc, .int .i64 out, .slice tp nt tc] 28 (0, 0)) := by rw [hV, ← hsB]; exact heap_alloc_new W _
  obtain ⟨X, hX⟩ : ∃ X, X = V.alloc (.cells #[.int .i64 id, .int .i64 (nv : Int)] 2 (0, 0)) := ⟨_, rfl⟩
  have bX : Below V.heap.size V X := by rw [hX]; exact alloc_below _ _
  have HN0 : NW W X (some ⟨V.heap.size, 0, none⟩) 2 2 [id, (nv : Int)] := by
    refine ⟨?_, fun i hi => .inr (by simp [Value.ownBlock] at hi; have := bV.size; omega), (Only.fresh (bV.trans (bX.mono bV.size)) _), Nat.le_trans bV.size bX.size⟩
    rw [hX]
    exact ⟨rfl, .inr ⟨V.heap.size, 2, _, rfl, bV.size, heap_alloc_new V _, Nat.le_refl _, by unfold maxLen; omega, rfl, rfl⟩⟩
  have u1 := below_box bX u0
  obtain ⟨x0, x1, x2, x3⟩ := box4' u0
  have hs := LRow.seg (by decide) intCells_len intCells_one (hv.later (bV.trans (bX.mono bV.size)))
  rw [hnv, cells_map] at hs
  have hlen : (numF id out vs ts).length = 2 + nv + 2 + (ts.flatMap numTV).length := by unfold numF; simp only [List.length_append, List.length_cons, List.length_nil, hnv]
  have z0 := ht.row.le
  have z1 := ht.row.top
  rw [hnt] at z0
  rw [hlen] at hbig
  have HS := hide hs
  have HN := hide HN0
  have HU1 := hide u1
  have HNV := hide hnv
  have HTR := hide ht
  have HNT := hide hnt
  have HLN := hide hlen
  have HVR := hide hv
  have HK1 : Hid (2 + nv ≤ maxLen) := by show _ ≤ _; unfold maxLen; omega
  have HK2 : Hid ((2 + nv) * 8 ≤ 140737488355328) := hide (by omega)
  obtain ⟨y0, y1, y2, y3⟩ := box4' u1
  subst hX
  clear hv hnv ht hnt hs hlen bV bX u0 u1 HN0
  go_enter Tryz.func17, Tryz.ntmps17
  go_upto_region 1 with fail
  rw [← hV]
  try rw [hsB]
  clear hV hsB
  go_wp2_with (at_builtin; refine append_cells _ rfl (.tmp 12) (.tmp 14) 25 rfl W.heap.size 2 j0 (.int .i64 0) 1 8 Tryz.underlying25 hj0 hj1 hj2 hj3 rfl (by decide) (.slice (some ⟨V.heap.size, 0, none⟩) 2 2) 2 _ rfl HN.out.row (.slice vp nv vc) nv _ rfl HS.out HK1.out HK2.out HN.out.low ?_)
  intro p1 c1 w1 o1 g1
  have HN1 := hide (NW.push HN.out o1 g1)
  have HUa := hide (HN.out.box g1 HU1.out (by decide))
  clear o1 g1 x0 x1 x2 x3 y0 y1 y2 y3 HN HS HU1
  obtain ⟨L1, hL1⟩ : ∃ L1, [id, (nv : Int)] ++ vs = L1 := ⟨_, rfl⟩
  rw [hL1] at HN1
  have HL1 := hide hL1
  clear hL1
  obtain ⟨y0, y1, y2, y3⟩ := box4' HUa.out
  obtain ⟨Z, hZ⟩ : ∃ Z, Z = w1.alloc (.cells #[.int .i64 out, .int .i64 (nt : Int)] 2 (0, 0)) := ⟨_, rfl⟩
  have bZ : Below w1.heap.size w1 Z := by rw [hZ]; exact alloc_below _ _
  have HNZ := hide (HN1.out.later bZ)
  have HSZ : Hid (Seg Z 1 (.slice (some ⟨w1.heap.size, 0, none⟩) 2 2) 2 ([out, (nt : Int)].map (Value.int .i64))) := hide (by rw [hZ]; exact Seg.news (heap_alloc_new w1 _) (by simp [Value.oneCell']) rfl (Nat.le_refl _) (by decide))
  have HUZ := hide (below_box bZ HUa.out)
  have HK3 : Hid (2 + nv + 2 ≤ maxLen) := by show _ ≤ _; unfold maxLen; omega
  have HK4 : Hid ((2 + nv + 2) * 8 ≤ 140737488355328) := hide (by omega)
  subst hZ
  clear bZ
  go_wp2_with (at_builtin; refine append_cells _ rfl (.tmp 16) (.tmp 22) 25 rfl W.heap.size 2 j0 (.int .i64 0) 1 8 Tryz.underlying25 hj0 hj1 hj2 hj3 rfl (by decide) (.slice p1 (2 + nv) c1) (2 + nv) _ rfl HNZ.out.row (.slice (some ⟨w1.heap.size, 0, none⟩) 2 2) 2 _ rfl HSZ.out HK3.out HK4.out HNZ.out.low ?_)
  intro p2 c2 w2 o2 g2
  have HN2 := hide (NW.push (ks := [out, (nt : Int)]) HNZ.out o2 g2)
  have HUb := hide (HNZ.out.box g2 HUZ.out (by decide))
  clear o2 g2 y0 y1 y2 y3 HNZ HSZ HUZ HN1 HUa
  obtain ⟨L2, hL2⟩ : ∃ L2, L1 ++ [out, (nt : Int)] = L2 := ⟨_, rfl⟩
  rw [hL2] at HN2
  have HL2 := hide hL2
  clear hL2
  obtain ⟨N, hN⟩ : ∃ N, 2 + nv + 2 = N := ⟨_, rfl⟩
  rw [hN] at HN2 hbig ⊢
  have HNN := hide hN
  clear hN
  obtain ⟨y0, y1, y2, y3⟩ := box4' HUb.out
  go_wp2_with fail
  clear y0 y1 y2 y3
  go_loopw [3, 27] (fun s i wq => ∃ (k : Nat) (q : Option Addr) (qc m : Nat), k ≤ nt ∧ i = .int .i64 (k : Int) ∧ s = .slice q m qc ∧ Hid (N + ((ts.take k).flatMap numTV).length = m) ∧ Hid (NW W wq q qc m (L2 ++ (ts.take k).flatMap numTV))) (fun _ i _ => nt - (intOf i).toNat)
  case atStart => exact ⟨0, p2, c2, N, Nat.zero_le _, rfl, rfl, hide (by simp), hide (by simpa using HN2.out)⟩
  case round =>
    obtain ⟨k, q, qc, m, hk, rfl, rfl, HM, HJ⟩ := hrel
    rename World => wq
    clear HN2 HUb
    by_cases hlt : k < nt
    · have hltk : k < ts.length := by rw [HNT.out]; exact hlt
      obtain ⟨x, hx⟩ : ∃ x, ts[k]! = x := ⟨_, rfl⟩
      have hxm : x ∈ ts := by rw [← hx, getElem!_pos ts k hltk]; exact List.getElem_mem _
      obtain ⟨g3, o3, rfl, d0, d1, d2⟩ := (HTR.out.later (NW.below HJ.out)).at hltk hx
      have etk : ts.take (k + 1) = ts.take k ++ [x] := by rw [List.take_succ_eq_append_getElem hltk, ← hx, getElem!_pos ts k hltk]
      have hle : ((ts.take (k + 1)).flatMap numTV).length ≤ (ts.flatMap numTV).length := by
        conv => rhs; rw [← List.take_append_drop (k + 1) ts, List.flatMap_append, List.length_append]
        omega
      have hok := HTR.out.ok x hxm
      rw [etk, List.flatMap_append, List.length_append] at hle
      obtain ⟨ks, kp, kc, tn, xs, bp, bc⟩ := x
      have e7 : (([⟨ks, kp, kc, tn, xs, bp, bc⟩] : List TV).flatMap numTV) = numT ks tn xs := by simp [numTV]
      rw [e7] at hle
      have HET : Hid ((ts.take (k + 1)).flatMap numTV = (ts.take k).flatMap numTV ++ numT ks tn xs) := hide (by rw [etk, List.flatMap_append, e7])
      simp only at d0 d1 d2
      obtain ⟨nk, hnk⟩ : ∃ nk, ks.length = nk := ⟨_, rfl⟩
      obtain ⟨nb, hnb⟩ : ∃ nb, xs.length = nb := ⟨_, rfl⟩
      rw [hnk] at d0
      rw [hnb] at d2
      obtain ⟨X1, hX1⟩ : ∃ X, X = wq.alloc (.cells #[.slice kp nk kc, .int .i64 tn, .slice bp nb bc] 46 (0, 0)) := ⟨_, rfl⟩
      have bX1 : Below wq.heap.size wq X1 := by rw [hX1]; exact alloc_below _ _
      have ux : X1.heap[wq.heap.size]? = some (.cells #[.slice kp nk kc, .int .i64 tn, .slice bp nb bc] 46 (0, 0)) := by rw [hX1]; exact heap_alloc_new _ _
      obtain ⟨xB, hxB⟩ : ∃ xB, wq.heap.size = xB := ⟨_, rfl⟩
      rw [hxB] at ux
      obtain ⟨y0, y1, y2⟩ := tsBox3 ux
      have hm9 := HM.out
      have HJX := hide (NI.later HJ.out bX1)
      have hA : m + (numT ks tn xs).length ≤ 1099511627776 := by omega
      have HAT := hide (addTask_any (W0 := W) (W := X1) (tn := tn) HJX.out.row (NW.below HJX.out) hok.keys hnk hok.bufs hnb hA)
      clear hA hx hxm etk hle hok e7 ux bX1 hnk hnb hm9 HJ
      go_upto_region 7 with fail
      rw [← hX1]
      try rw [hxB]
      clear hX1 hxB d0 d1 d2
      go_wp2_with fail
      refine HAT.out.mono ?_
      rintro _ w5 ⟨p5, c5, m5, rfl, hm5, hn5⟩
      have HJF : Hid (NW W w5 p5 c5 m5 (L2 ++ (ts.take (k + 1)).flatMap numTV)) := hide (by
        rw [HET.out, ← List.append_assoc]
        exact NW.chain HJX.out hn5)
      have HMF : Hid (N + ((ts.take (k + 1)).flatMap numTV).length = m5) := hide (by
        rw [HET.out, List.length_append, ← Nat.add_assoc, HM.out]
        exact hm5)
      clear hm5 hn5 HAT HJX y0 y1 y2
      go_wp2
      exact ⟨⟨k + 1, p5, c5, m5, by omega, by first | rfl | go_num, rfl, HMF, HJF⟩, by simp [intOf]; omega⟩
    · have hkn : k = nt := by omega
      subst hkn
      have hte : ts.take k = ts := List.take_of_length_le (by rw [HNT.out]; exact Nat.le_refl _)
      rw [hte] at HJ HM
      have e8 : L2 ++ ts.flatMap numTV = numF id out vs ts := by
        rw [← HL2.out, ← HL1.out]
        unfold numF
        rw [HNV.out, HNT.out]
      rw [e8] at HJ
      have HMM : Hid ((numF id out vs ts).length = m) := hide (by have h1 := HM.out; have h2 := HLN.out; have h3 := HNN.out; omega)
      clear hte e8
      go_wp2
      go_ret
      exact ⟨q, qc, m, rfl, HMM.out, HJ.out⟩
end Go.Proofs.YtlfipmieaabagaaGreat

/-
  What pack.Int and Str, and the reference's form, Int, One and Str, return, over any world, in which nothing that was there turns. The conditions: each slice reads as data, and what is made is no longer than 2^47 bytes.
-/
namespace Go.Proofs.YtlfipmieaabagaaGreat
open Go.RowKit

theorem take_succ_x {l : List Int} {k : Nat} (h : k < l.length) : l.take (k + 1) = l.take k ++ [l.getD k 0] := by
  rw [List.take_succ_eq_append_getElem h]; simp [List.getD, List.getElem?_eq_getElem h]
theorem forms_step {l : List Int} {k : Nat} (h : k < l.length) : forms (l.take (k + 1)) = forms (l.take k) ++ form (zz (l.getD k 0)) := by
  rw [take_succ_x h, forms_snoc]
theorem I64.at {l : List Int} (h : I64 l) {k : Nat} (hk : k < l.length) : -9223372036854775808 ≤ l.getD k 0 ∧ l.getD k 0 ≤ 9223372036854775807 := by
  have := h (l[k]) (List.getElem_mem hk)
  simpa [List.getD, List.getElem?_eq_getElem hk] using this
theorem I64.take {l : List Int} (h : I64 l) (k : Nat) : I64 (l.take k) := fun x hx => h x (List.mem_of_mem_take hx)

set_option maxHeartbeats 2000000 in
theorem int_any {vb vl : Value} {b l : List Int} {w : World} (hb : Row .u8 w vb b) (hl : Row .i64 w vl l) (hi64 : I64 l) (hbig : b.length + 10 * l.length ≤ 140737488355000) :
    Calls Tryz.prog 16 #[vb, vl] w fun e w' => ∃ v', e = .returned v' ∧ w'.ownsRow w.heap.size 5 1 v' (b ++ forms l).length ((b ++ forms l).map (Value.int .u8)) ∧ Below w.heap.size w w' := by
  obtain ⟨p, cap, rfl, g1, g2, g3, g4⟩ := hl
  have HB : Hid (Row .u8 w vb b) := hb
  have HL : Hid (0 < l.length → ∃ b o, p = some ⟨b, o, none⟩ ∧ ∀ i, i < l.length → w.cell? ⟨b, o + i, none⟩ = some (.int .i64 (l.getD i 0))) := g4
  have HI : Hid (I64 l) := hi64
  clear hb g3 g4 hi64
  go_enter Tryz.func16, Tryz.ntmps16
  go_wp2
  go_loop [5, 13] (fun t i => ∃ k : Nat, k ≤ l.length ∧ i = .int .i64 (k : Int) ∧ t = .int .i64 (((forms (l.take k)).length : Nat) : Int)) (fun _ i => l.length - (intOf i).toNat)
  case atStart => exact ⟨0, Nat.zero_le _, rfl, rfl⟩
  case round =>
    obtain ⟨k, hk, rfl, rfl⟩ := hrel
    have f1 := forms_len (l.take k) (HI.out.take k)
    have f2 : (l.take k).length = k := by rw [List.length_take]; omega
    by_cases hlt : k < l.length
    · obtain ⟨bb, o, rfl, hc⟩ := HL.out (by omega)
      obtain ⟨x, hx⟩ : ∃ x, x = l.getD k 0 := ⟨_, rfl⟩
      have hcx : w.cell? ⟨bb, o + k, none⟩ = some (.int .i64 x) := by rw [hx]; exact hc k hlt
      obtain ⟨x0, x1⟩ := HI.out.at hlt
      rw [← hx] at x0 x1
      have HX : Hid (x = l.getD k 0) := hx
      have z1 := sz_le10 (zz_lt x x0 x1)
      clear hc hx HL
      go_wp2_with (go_at_call 44; refine (size_any _ _ x0 x1).mono ?_; rintro e w' ⟨rfl, rfl⟩)
      go_round
      case rel => exact ⟨k + 1, by omega, by go_num, by rw [forms_step hlt, ← HX.out, List.length_append]; go_num⟩
      case measure => simp [intOf]; omega
    · have hkl : k = l.length := by omega
      subst hkl
      have f3 : l.take l.length = l := List.take_length
      rw [f3] at f1 ⊢
      clear f2 f3
      have HF : Hid ((forms l).length ≤ 10 * l.length) := f1
      go_wp2_with (go_at_call 45; refine (begin_any HB.out _ (by omega)).mono ?_; rintro e w1 ⟨v1, rfl, hown, hbel⟩)
      go_loopw [8, 27] (fun v i wr => ∃ k : Nat, k ≤ l.length ∧ i = .int .i64 (k : Int) ∧ wr.ownsRow w.heap.size 5 1 v (b ++ forms (l.take k)).length ((b ++ forms (l.take k)).map (Value.int .u8)) ∧ Below w.heap.size w wr) (fun _ i _ => l.length - (intOf i).toNat)
      case atStart => exact ⟨0, Nat.zero_le _, rfl, by simpa [forms] using hown, hbel⟩
      case round =>
        obtain ⟨k, hk, rfl, hownr, hbr⟩ := hrel
        have f1 := forms_len (l.take k) (HI.out.take k)
        have f2 : (l.take k).length = k := by rw [List.length_take]; omega
        by_cases hlt : k < l.length
        · obtain ⟨bb, o, rfl, hc⟩ := HL.out (by omega)
          obtain ⟨x, hx⟩ : ∃ x, x = l.getD k 0 := ⟨_, rfl⟩
          have hcx : wr.cell? ⟨bb, o + k, none⟩ = some (.int .i64 x) := by rw [hx]; exact cell_later hbr (hc k hlt)
          obtain ⟨x0, x1⟩ := HI.out.at hlt
          rw [← hx] at x0 x1
          have HX : Hid (x = l.getD k 0) := hx
          clear hc hx HL hown
          go_wp2_with (go_at_call 46; refine (put_any _ x0 x1 hownr hbr.size (by simp only [List.length_append]; omega)).mono ?_; rintro e w2 ⟨v2, rfl, hown2, hbel2⟩)
          go_roundw
          case rel =>
            refine ⟨k + 1, by omega, by go_num, ?_, hbr.trans hbel2⟩
            rw [forms_step hlt, ← HX.out, ← List.append_assoc, List.map_append (f := Value.int IntKind.u8), List.length_append (bs := form (zz x))]
            exact hown2
          case measure => simp [intOf]; omega
        · have hkl : k = l.length := by omega
          subst hkl
          rw [List.take_length] at hownr
          go_wp2
          go_ret
          exact ⟨_, rfl, hownr, hbr⟩

/-- What a slice of one element owns that the call has just laid. -/
theorem own_one (w : World) (t : TypeId) (x : Value) {base : Nat} (hb : base ≤ w.heap.size) : (w.alloc (.cells #[x] t)).ownsRow base t 1 (.slice (some ⟨w.heap.size, 0, none⟩) 1 1) 1 [x] :=
  ⟨by simp, .inr ⟨w.heap.size, 1, #[x], rfl, hb, heap_alloc_new w _, Nat.le_refl _, by decide, rfl, rfl⟩⟩

set_option maxHeartbeats 1000000 in
theorem form_any {n : Int} {w : World} (h0 : -9223372036854775808 ≤ n) (h1 : n ≤ 9223372036854775807) :
    Calls Tryz.prog 52 #[.int .i64 n] w fun e w' => ∃ v', e = .returned v' ∧ w'.ownsRow w.heap.size 5 1 v' (form (zz n)).length ((form (zz n)).map (Value.int .u8)) ∧ Below w.heap.size w w' := by
  obtain ⟨i0, hI, hz0, hz1, hz2⟩ := info_parts Tryz.infoU8
  have hz := zz_lt n h0 h1
  have s2 : (form (zz n)).length ≤ 10 := sz_le10 hz
  go_enter Tryz.func52, Tryz.ntmps52
  go_wp2_with (go_at_call 89; refine (rnatural_any _ _ h0 h1).mono ?_; rintro e w' ⟨rfl, rfl⟩)
  go_loopw [3, 4] (fun u v wr => ∃ (q : Nat) (r : List Int), q < 18446744073709551616 ∧ u = .int .u64 (q : Int) ∧ hi q ++ r = form (zz n) ∧ wr.ownsRow w'.heap.size 5 1 v r.length (r.map (Value.int .u8)) ∧ Below w'.heap.size w' wr) (fun u _ _ => (intOf u).toNat)
  case atStart => exact ⟨zz n / 128, [((zz n : Nat) : Int) % 128], by omega, by go_num, by unfold form; simp, own_one w' 5 _ (Nat.le_refl _), (Below.refl _ _).alloc (Nat.le_refl _) _⟩
  case round =>
    obtain ⟨q, r, hq, rfl, hr, hown, hb⟩ := hrel
    have HR : Hid (hi q ++ r = form (zz n)) := hr
    clear hr
    by_cases hq0 : 0 < q
    · have hlen : r.length + 1 ≤ 10 := by
        have := congrArg List.length HR.out
        rw [hi_pos hq0] at this
        simp at this
        omega
      go_wp2_with (at_builtin; refine append_row _ rfl _ _ 29 rfl w'.heap.size 5 i0 .u8 1 Tryz.underlying29 hI hz0 hz1 hz2 _ _ _ rfl (own_one wr 5 _ hb.size) _ r rfl ((own_row hown).below ((Below.refl _ _).alloc (Nat.le_refl _) _)) ?_ ?_ ?_ ?_)
      · omega
      · omega
      · simp; have := hb.size; omega
      intro v1 w1 hown1 hgrow1
      have R : w1.ownsRow w'.heap.size 5 1 v1 (((q % 128 + 128 : Nat) : Int) :: r).length ((((q % 128 + 128 : Nat) : Int) :: r).map (Value.int .u8)) := by
        rw [show (((q % 128 + 128 : Nat) : Int) :: r).length = 1 + r.length by simp; omega, show ((q % 128 + 128 : Nat) : Int) = (q : Int) % 128 + 128 by omega]
        simpa using hown1
      have B1 : Below w'.heap.size w' w1 := (hb.alloc hb.size _).grown hgrow1 (by simp; have := hb.size; omega) (fun g hg => by simp [Value.ownBlock] at hg; have := hb.size; omega)
      have HR' : Hid (hi (q / 128) ++ (((q % 128 + 128 : Nat) : Int) :: r) = form (zz n)) := by
        show _ = _
        rw [← HR.out, hi_pos hq0]; simp
      clear hown1 hgrow1 hown hb
      go_wp2
      go_roundw
      case rel => exact ⟨q / 128, _, by omega, by go_num, HR'.out, R, B1⟩
      case measure => simp [intOf]; omega
    · obtain rfl : q = 0 := by omega
      have hr : r = form (zz n) := by have := HR.out; rw [hi_zero] at this; simpa using this
      rw [hr] at hown
      clear hr
      go_wp2
      go_ret
      exact ⟨_, rfl, hown, hb⟩

end Go.Proofs.YtlfipmieaabagaaGreat

/-
  From of any graph; Bytes of the program. The conditions: lengths, and that numbers are numbers.
-/
namespace Go.Proofs.YtlfipmieaabagaaGreat
open Go.RowKit Go.Shelf

set_option maxRecDepth 100000 in
set_option maxHeartbeats 4000000 in
theorem from_bad {W : World} {parts id out : Int} {p vp tp : Option Addr} {cap n nv vc nt tc : Nat} {os : List OV} (ho : GRow W p cap os) (hn : os.length = n) {er : Int} (her : (checkC parts (os.map OV.o)).2 = er) (h0 : er ≠ 0) :
    Calls Tryz.prog 15 #[.agg #[.int .i64 parts, .slice p n cap], .int .i64 1, .agg #[.int .i64 id, .slice vp nv vc, .int .i64 out, .slice tp nt tc]] W (FromAt er W) := by
  obtain ⟨V, hV⟩ : ∃ V, V = (W.alloc (.cells #[.int .i64 parts, .slice p n cap] 24 (0, 0))).alloc (.cells #[.int .i64 id, .slice vp nv vc, .int .i64 out, .slice tp nt tc] 28 (0, 0)) := ⟨_, rfl⟩
  have a1 := alloc_below W (.cells #[.int .i64 parts, .slice p n cap] 24 (0, 0))
  have a2 := alloc_below (W.alloc (.cells #[.int .i64 parts, .slice p n cap] 24 (0, 0))) (.cells #[.int .i64 id, .slice vp nv vc, .int .i64 out, .slice tp nt tc] 28 (0, 0))
  have bV : Below W.heap.size W V := by rw [hV]; exact a1.trans (a2.mono a1.size)
  obtain ⟨gB, hgB⟩ : ∃ gB, W.heap.size = gB := ⟨_, rfl⟩
  have u0 : V.heap[gB]? = some (.cells #[.int .i64 parts, .slice p n cap] 24 (0, 0)) := by rw [hV, ← hgB]; exact below_box a2 (heap_alloc_new W _)
  have HFA := hide (fault_any (parts := parts) (ho.below bV) hn her)
  have HBV := hide bV
  have e0 := ne_eq h0
  have H0 := hide h0
  obtain ⟨x0, x1⟩ := box2 u0
  clear ho hn her bV u0 a1 a2 h0
  go_enter Tryz.func15, Tryz.ntmps15
  go_upto_region 1 with fail
  rw [← hV]
  try rw [hgB]
  clear hV hgB
  go_wp2_with fail
  refine HFA.out.mono ?_
  rintro _ w1 ⟨rfl, b1⟩
  have HB1 := hide (HBV.out.trans (b1.mono HBV.out.size))
  clear b1 x0 x1
  go_wp2
  go_ret2
  exact ⟨none, rfl, fun e => absurd e H0.out, HB1.out⟩
theorem from_all {W : World} {parts id out : Int} {p vp tp : Option Addr} {cap n nv vc nt tc : Nat} {os : List OV} {vs : List Int} {ts : List TV} (ho : GRow W p cap os) (hn : os.length = n) (hv : NRow W vp vc vs) (hnv : vs.length = nv) (ht : TRow W tp tc ts) (hnt : ts.length = nt) (hb : nv ≤ 1048576) (hbt : ∀ x ∈ ts, x.xs.length ≤ 1048576 ∧ ∀ y ∈ x.xs, y.rs.length ≤ 1048576) {er : Int} (her : flowC parts (os.map OV.o) id out vs ts = er) :
    Calls Tryz.prog 15 #[.agg #[.int .i64 parts, .slice p n cap], .int .i64 1, .agg #[.int .i64 id, .slice vp nv vc, .int .i64 out, .slice tp nt tc]] W (FromAt er W) := by
  by_cases h0 : (checkC parts (os.map OV.o)).2 = 0
  · have h1 : 1 ≤ parts ∧ parts ≤ 4 := by
      have h9 := h0
      unfold checkC at h9
      by_cases h1 : 1 ≤ parts ∧ parts ≤ 4
      · exact h1
      · rw [if_neg h1] at h9; simp at h9
    obtain ⟨P, rfl⟩ : ∃ P : Nat, parts = (P : Int) := ⟨parts.toNat, by omega⟩
    exact from_any ho hn hv hnv ht hnt hb hbt her h0
  · refine from_bad ho hn ?_ ?_
    · rw [← her]; unfold flowC; rw [if_neg h0]
    · rw [← her]; unfold flowC; rw [if_neg h0]; exact h0
/-- What Bytes answers. -/
def bytesC (parts : Int) (os : List GO) (id out : Int) (vs : List Int) (ts : List TV) : List Int × Int :=
  if flowC parts os id out vs ts = 0 then (if (forms (numF id out vs ts)).length ≤ 131072 then (forms (numF id out vs ts), 0) else ([], 3)) else ([], flowC parts os id out vs ts)
set_option maxRecDepth 100000 in
set_option maxHeartbeats 4000000 in
theorem bytes_any {W : World} {parts id out : Int} {p vp tp : Option Addr} {cap n nv vc nt tc : Nat} {os : List OV} {vs : List Int} {ts : List TV} (ho : GRow W p cap os) (hn : os.length = n) (hv : NRow W vp vc vs) (hnv : vs.length = nv) (ht : TRow W tp tc ts) (hnt : ts.length = nt) (hb : nv ≤ 1048576) (hbt : ∀ x ∈ ts, x.xs.length ≤ 1048576 ∧ ∀ y ∈ x.xs, y.rs.length ≤ 1048576) (hbig : (numF id out vs ts).length ≤ 1099511627776) (hI : I64 (numF id out vs ts)) {bs : List Int} {er : Int} (her : bytesC parts (os.map OV.o) id out vs ts = (bs, er)) :
    Calls Tryz.prog 6 #[.agg #[.int .i64 parts, .slice p n cap], .agg #[.int .i64 id, .slice vp nv vc, .int .i64 out, .slice tp nt tc]] W fun e w' => ∃ v, e = .returned (.tuple #[v, .int .i64 er]) ∧ Row .u8 w' v bs ∧ Below W.heap.size W w' := by
  obtain ⟨V, hV⟩ : ∃ V, V = (W.alloc (.cells #[.int .i64 parts, .slice p n cap] 24 (0, 0))).alloc (.cells #[.int .i64 id, .slice vp nv vc, .int .i64 out, .slice tp nt tc] 28 (0, 0)) := ⟨_, rfl⟩
  have a1 := alloc_below W (.cells #[.int .i64 parts, .slice p n cap] 24 (0, 0))
  have a2 := alloc_below (W.alloc (.cells #[.int .i64 parts, .slice p n cap] 24 (0, 0))) (.cells #[.int .i64 id, .slice vp nv vc, .int .i64 out, .slice tp nt tc] 28 (0, 0))
  have bV : Below W.heap.size W V := by rw [hV]; exact a1.trans (a2.mono a1.size)
  obtain ⟨gB, hgB⟩ : ∃ gB, W.heap.size = gB := ⟨_, rfl⟩
  obtain ⟨sB, hsB⟩ : ∃ sB, gB + 1 = sB := ⟨_, rfl⟩
  have u0 : V.heap[gB]? = some (.cells #[.int .i64 parts, .slice p n cap] 24 (0, 0)) := by rw [hV, ← hgB]; exact below_box a2 (heap_alloc_new W _)
  have u1 : V.heap[sB]? = some (.cells #[.int .i64 id, .slice vp nv vc, .int .i64 out, .slice tp nt tc] 28 (0, 0)) := by
    have e : sB = (W.alloc (.cells #[.int .i64 parts, .slice p n cap] 24 (0, 0))).heap.size := by rw [← hsB, ← hgB]; simp
    rw [hV, e]
    exact heap_alloc_new _ _
  obtain ⟨fe, hfe⟩ : ∃ fe, flowC parts (os.map OV.o) id out vs ts = fe := ⟨_, rfl⟩
  have HFR := hide (from_all (ho.below bV) hn (hv.later bV) hnv (ht.later bV) hnt hb hbt hfe)
  have HBV := hide bV
  have HU1 := hide u1
  have HVR := hide hv
  have HNV := hide hnv
  have HTR := hide ht
  have HNT := hide hnt
  have HIB := hide hI
  have HBG := hide hbig
  have HER : Hid ((if fe = 0 then (if (forms (numF id out vs ts)).length ≤ 131072 then (forms (numF id out vs ts), 0) else ([], 3)) else ([], fe)) = (bs, er)) := hide (by rw [← her]; unfold bytesC; rw [hfe])
  obtain ⟨x0, x1⟩ := box2 u0
  obtain ⟨s0, s1, s2, s3⟩ := box4 u1
  clear ho hn hv hnv ht hnt hbt hbig hI her bV u0 u1 a1 a2 hfe
  go_enter Tryz.func6, Tryz.ntmps6
  go_upto_region 1 with fail
  rw [← hV]
  try rw [hgB]
  try rw [hsB]
  clear hV hgB hsB
  go_wp2_with fail
  refine HFR.out.mono ?_
  rintro _ w1 ⟨pv, rfl, _, b1⟩
  have HB1 := hide (HBV.out.trans (b1.mono HBV.out.size))
  have HU1a := hide (below_box b1 HU1.out)
  clear b1 x0 x1 s0 s1 s2 s3 HFR
  by_cases h0 : fe = 0
  · subst h0
    obtain ⟨s0, s1, s2, s3⟩ := box4 HU1a.out
    have HNM := hide (numbers_any (W := w1) (id := id) (out := out) (HVR.out.later HB1.out) HNV.out (HTR.out.later HB1.out) HNT.out HBG.out)
    go_wp2_with fail
    refine HNM.out.mono ?_
    rintro _ w2 ⟨p2, c2, m, rfl, hm, hn2⟩
    have HB2 := hide (HB1.out.trans ((NW.below hn2).mono HB1.out.size))
    have HIN := hide (int_any (w := w2) (Row.nil .u8 w2) (own_row hn2.row) HIB.out (by have h9 := HBG.out; simp only [List.length_nil]; omega))
    clear hm hn2 HNM s0 s1 s2 s3
    go_wp2_with fail
    refine HIN.out.mono ?_
    rintro _ w3 ⟨v3, rfl, o3, b3⟩
    rw [List.nil_append] at o3
    obtain ⟨q3, d3, rfl, _, _⟩ := own_form o3
    have HR3 := hide (own_row o3)
    have HB3 := hide (HB2.out.trans (b3.mono HB2.out.size))
    obtain ⟨B, hB⟩ : ∃ B, (forms (numF id out vs ts)).length = B := ⟨_, rfl⟩
    rw [hB]
    have HBB := hide hB
    clear o3 b3 HIN hB
    by_cases hbb : B ≤ 131072
    · have e1 : decide (B > 131072) = false := decide_eq_false (by omega)
      have e2 : decide ((B : Int) > 131072) = false := decide_eq_false (by omega)
      have h9 := HER.out
      rw [if_pos (by trivial), HBB.out, if_pos hbb] at h9
      simp only [Prod.mk.injEq] at h9
      obtain ⟨hb1, hb2⟩ := h9
      have HE1 := hide hb1
      have HE2 := hide hb2
      clear hb1 hb2
      go_wp2
      go_ret2
      refine ⟨.slice q3 B d3, by rw [← HE2.out]; rfl, ?_, HB3.out⟩
      rw [← HE1.out, ← HBB.out]
      exact HR3.out
    · have e1 : decide (B > 131072) = true := decide_eq_true (by omega)
      have e2 : decide ((B : Int) > 131072) = true := decide_eq_true (by omega)
      have h9 := HER.out
      rw [if_pos (by trivial), HBB.out, if_neg hbb] at h9
      simp only [Prod.mk.injEq] at h9
      obtain ⟨hb1, hb2⟩ := h9
      have HE1 := hide hb1
      have HE2 := hide hb2
      clear hb1 hb2
      go_wp2
      go_ret2
      refine ⟨.slice none 0 0, by rw [← HE2.out]; rfl, ?_, HB3.out⟩
      rw [← HE1.out]
      exact Row.nil _ _
  · have e0 := ne_eq h0
    have h9 := HER.out
    rw [if_neg h0] at h9
    simp only [Prod.mk.injEq] at h9
    obtain ⟨hb1, hb2⟩ := h9
    have HE1 := hide hb1
    have HE2 := hide hb2
    clear hb1 hb2
    go_wp2
    go_ret2
    refine ⟨.slice none 0 0, by rw [← HE2.out]; rfl, ?_, HB1.out⟩
    rw [← HE1.out]
    exact Row.nil _ _
end Go.Proofs.YtlfipmieaabagaaGreat
