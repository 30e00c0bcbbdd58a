/-
  From, plainly: which things are a sink's; and a map of transactions one longer. No conditions beyond what each says.
-/
import Derived.Test.YtboofnkajjnmeaaGreatSkn
import Derived.Test.YtboofnkajjnmeaaGreatSkd
namespace Go.Proofs.YtboofnkajjnmeaaGreat
open Go.RowKit

def ris (l : List Int) : Prop := l.Pairwise (· < ·) ∧ ∀ x ∈ l, posI x
instance (l : List Int) : Decidable (ris l) := by unfold ris; infer_instance
structure FitO (n : Int) (s : SK) : Prop where
  room : s.pre.length ≤ 8
  may : ∀ t ∈ s.pre, mayC n t ∧ t.ep = s.reg ∧ t.id ∉ s.done
  ids : ris (s.pre.map TX.id)
def unt (s : SK) : Prop := s.out = [] ∧ s.done = [] ∧ s.pre = [] ∧ ∀ x ∈ s.vec, x = 0
instance (s : SK) : Decidable (unt s) := by unfold unt; infer_instance
structure Fit (n : Int) (s : SK) : Prop where
  reg : s.reg = 0 ∨ posI s.reg
  out : s.out.length ≤ 4096
  vec : vecI n s.vec
  done : ris s.done
  pre : FitO n s
  zero : s.reg = 0 → unt s
theorem Fit.ok {n : Int} {s : SK} (h : Fit n s) (h1 : 1 ≤ n) (h4 : n ≤ 4) : okS s := by
  have hv : (s.vec.length : Int) = n := h.vec.1
  refine ⟨?_, h.out, by omega, h.vec.2, h.done, h.pre.room, ?_, fun t ht => ?_, fun h0 => ?_⟩
  · rcases h.reg with h0 | h0
    · rw [h0]; exact ⟨by omega, by omega⟩
    · exact ⟨by have := h0.1; omega, h0.2⟩
  · have h9 := h.pre.ids.1
    rw [List.pairwise_map] at h9
    exact h9
  · rw [hv]
    exact h.pre.may t ht
  · obtain ⟨a, b, c, d⟩ := h.zero h0
    exact ⟨a, b, c, d⟩
theorem okS.first {s : SK} (h : okS s) (j : Nat) : okS ⟨s.reg, s.out, s.vec, s.done, s.pre.take j⟩ :=
  ⟨h.reg, h.out, h.parts, h.vec, h.done, by show (s.pre.take j).length ≤ 8; rw [List.length_take]; have := h.room; omega, h.pre.sublist (List.take_sublist j s.pre), fun t ht => h.may t (List.mem_of_mem_take ht), fun h0 => by
    obtain ⟨a, b, c, d⟩ := h.zero h0
    exact ⟨a, b, by show s.pre.take j = []; rw [c]; simp, d⟩⟩
theorem ins_last {t : TX} : ∀ {l : List TX}, (∀ x ∈ l, x.id < t.id) → insT t l = l ++ [t]
  | [], _ => rfl
  | a :: l, h => by
    unfold insT
    rw [if_pos (h a (List.mem_cons_self ..)), ins_last (fun x hx => h x (List.mem_cons_of_mem _ hx))]
    rfl
theorem no_find {s : SK} {i : Int} (h : ∀ t ∈ s.pre, t.id ≠ i) : findC s i = none := by
  unfold findC
  rw [List.find?_eq_none]
  intro t ht
  simpa using h t ht
theorem PS.addT {B : Nat} {W W1 : World} {k : PK} {ep id bg : Int} {rs : List RC} {vs : List Int} {p q : Option Addr} {c d rn vn : Nat} (h : PS B W k) (hb : Below W.heap.size W W1)
    (o1 : W1.ownsRow W.heap.size 54 2 (.slice p rn c) rn (rs.flatMap RC.cells)) (o2 : W1.ownsRow W.heap.size 2 1 (.slice q vn d) vn (vs.flatMap intCells)) (hrn : rs.length = rn) (hvn : vs.length = vn)
    (he : ep = k.reg) (hm : mayC k.vec.length ⟨ep, id, bg, rs, vs⟩) (hd : id ∉ k.done) (hf : findC k.sk id = none) (hl : k.xs.length < 8) :
    ∃ w8, (Instr.mapUpdate 56 (.map (some k.mb)) (keyV ep id) (.agg #[.int .i64 ep, .int .i64 id, .int .i64 bg, .slice p rn c, .slice q vn d])).run Tryz.prog W1 = .ok () w8 ∧
      PS B w8 ⟨k.b, k.mb, k.op, k.oc, k.vp, k.vc, k.dp, k.dc, k.reg, k.out, k.vec, k.done, insP ⟨⟨ep, id, bg, rs, vs⟩, p, c, q, d⟩ k.xs⟩ ∧ Only (· = k.mb) W1 w8 := by
  have hps := h.later hb
  have hfn : findP k.xs id = none := by
    rw [find_P] at hf
    cases h9 : findP k.xs id with
    | none => rfl
    | some x => rw [h9] at hf; cases hf
  obtain ⟨w8, hup, hm8, ho8⟩ := hps.map.put hps.named (x := ⟨⟨ep, id, bg, rs, vs⟩, p, c, q, d⟩) he hm.1 hm.2.1 hfn (by unfold maxLen; omega)
  simp only [TP.row, hrn, hvn] at hup
  refine ⟨w8, hup, ?_, ho8⟩
  have hold : ∀ i, k.blk i → i < W.heap.size := fun i hi => (h.lt hi).2
  have hge : B ≤ W.heap.size := by have := h.lt (.inl rfl); omega
  have hx1 : ∀ i, InB p i → W.heap.size ≤ i := fun i hi => own_block_base o1 (InB.to hi)
  have hx2 : ∀ i, InB q i → W.heap.size ≤ i := fun i hi => own_block_base o2 (InB.to hi)
  have ht1 : TO B W1 ⟨⟨ep, id, bg, rs, vs⟩, p, c, q, d⟩ := ⟨by show W1.ownsRow B _ 2 (.slice p rs.length c) rs.length _; rw [hrn]; exact ownsRow_base o1 hge, by show W1.ownsRow B _ 1 (.slice q vs.length d) vs.length _; rw [hvn]; exact ownsRow_base o2 hge⟩
  have ht8 : ∀ x ∈ k.xs, TO B w8 x := fun x hx => (hps.pre x hx).only ho8 (fun i hi => row_map (hps.pre x hx).r hps.map i hi) (fun i hi => row_map (hps.pre x hx).v hps.map i hi)
  refine ⟨ho8.obj hps.box (fun e9 => hps.map.box hps.box e9.symm), ?_, ownsRow_only hps.out ho8 (fun i hi => row_map hps.out hps.map i (InB.of hi)), ownsRow_only hps.vec ho8 (fun i hi => row_map hps.vec hps.map i (InB.of hi)), ownsRow_only hps.done ho8 (fun i hi => row_map hps.done hps.map i (InB.of hi)), fun x hx => ?_, ⟨hps.ap.1, fun x hx => ?_⟩, hps.ge, ?_⟩
  · have h9 := hm8 (insP ⟨⟨ep, id, bg, rs, vs⟩, p, c, q, d⟩ k.xs) (insP_perm _ _)
    have h8 : (insP (⟨⟨ep, id, bg, rs, vs⟩, p, c, q, d⟩ : TP) k.xs).length = k.xs.length + 1 := (insP_perm _ _).length_eq
    show MapT w8 k.mb (insP (⟨⟨ep, id, bg, rs, vs⟩, p, c, q, d⟩ : TP) k.xs).length _
    rw [h8]
    exact h9
  · rcases List.mem_cons.1 ((insP_perm _ _).mem_iff.1 hx) with rfl | hx
    · exact ht1.only ho8 (fun i hi => row_map ht1.r hps.map i hi) (fun i hi => row_map ht1.v hps.map i hi)
    · exact ht8 x hx
  · rcases List.mem_cons.1 ((insP_perm _ _).mem_iff.1 hx) with rfl | hx
    · exact ⟨fun i hi hj => by have := hx1 i hi; have := hold i (.inr (.inr (.inl hj))); omega, fun i hi hj => by have := hx2 i hi; have := hold i (.inr (.inr (.inr (.inr (.inl hj))))); omega⟩
    · exact hps.ap.2 x hx
  · have h9 : okS k.sk := hps.ok
    have h8 := ins_ok h9 (t := ⟨ep, id, bg, rs, vs⟩) hm he (by unfold doneC; rw [decide_eq_false_iff_not]; exact fun h7 => hd h7.2) hf (by show (k.xs.map TP.t).length < 8; rw [List.length_map]; exact hl)
    show okS ⟨k.reg, k.out, k.vec, k.done, (insP _ k.xs).map TP.t⟩
    rw [insP_map]
    exact h8
end Go.Proofs.YtboofnkajjnmeaaGreat

/-
  slices.Max of numbers, rises, untouched of the program. The conditions: that the lists lie there; that Max has some.
-/
namespace Go.Proofs.YtboofnkajjnmeaaGreat
open Go.RowKit Go.Maps Go.Shelf

def maxT (l : List Int) (k : Nat) : Int := (l.take k).foldl (fun a b => if a < b then b else a) (l[0]!)
theorem maxT_next {l : List Int} {k : Nat} {x : Int} (hk : k < l.length) (hx : l[k]! = x) : maxT l (k + 1) = if maxT l k < x then x else maxT l k := by
  unfold maxT
  rw [List.take_succ_eq_append_getElem hk, List.foldl_append, ← hx, getElem!_pos l k hk]
  rfl
theorem maxT_ge {l : List Int} : ∀ {k : Nat}, k ≤ l.length → ∀ x ∈ l.take k, x ≤ maxT l k
  | 0, _, x, hx => by simp at hx
  | k + 1, hk, x, hx => by
    rw [maxT_next (x := l[k]!) (by omega) rfl]
    rw [List.take_succ_eq_append_getElem (by omega)] at hx
    rcases List.mem_append.1 hx with hx | hx
    · have := maxT_ge (k := k) (by omega) x hx
      split <;> omega
    · simp only [List.mem_singleton] at hx
      rw [← getElem!_pos l k (by omega)] at hx
      split <;> omega
theorem maxT_in {l : List Int} (h0 : 0 < l.length) : ∀ {k : Nat}, k ≤ l.length → maxT l k ∈ l
  | 0, _ => by
    show l[0]! ∈ l
    rw [getElem!_pos l 0 h0]
    exact List.getElem_mem h0
  | k + 1, hk => by
    rw [maxT_next (x := l[k]!) (by omega) rfl]
    split
    · rw [getElem!_pos l k (by omega)]
      exact List.getElem_mem (by omega)
    · exact maxT_in h0 (by omega)
theorem maxT_zero {l : List Int} (h0 : 0 < l.length) (h : ∀ x ∈ l, numI x) : maxT l l.length = 0 ↔ ∀ x ∈ l, x = 0 := by
  constructor
  · intro h1 x hx
    have := maxT_ge (l := l) (Nat.le_refl _) x (by rw [List.take_length]; exact hx)
    have := (h x hx).1
    omega
  · intro h1
    exact h1 _ (maxT_in h0 (Nat.le_refl _))
set_option maxRecDepth 100000 in
set_option maxHeartbeats 4000000 in
theorem max_any {W : World} {p : Option Addr} {n c : Nat} {l : List Int} (h : NRow W p c l) (hn : l.length = n) (h0 : 0 < n) {m : Int} (hm : maxT l n = m) :
    Calls Tryz.prog 83 #[.slice p n c] W fun e w' => e = .returned (.int .i64 m) ∧ w' = W := by
  have HC := hide h
  have HN := hide hn
  have HM0 := hide hm
  have i1 := h.le
  have i2 := h.top
  rw [hn] at i1
  obtain ⟨x0, hx0⟩ : ∃ x0, l[0]! = x0 := ⟨_, rfl⟩
  obtain ⟨g1, o1, rfl, a0⟩ := NRow.at h (i := 0) (by omega) hx0
  rw [Nat.add_zero] at a0
  have hm1 : maxT l 1 = x0 := by
    rw [maxT_next (by omega) hx0]
    show (if l[0]! < x0 then x0 else l[0]!) = x0
    rw [hx0, if_neg (by omega)]
  have HM1 := hide hm1
  have q0 : decide ((n : Int) < 1) = false := decide_eq_false (by omega)
  have q1 : decide (n < 1) = false := decide_eq_false (by omega)
  clear h hn hx0 hm1 hm
  go_enter Tryz.func83, Tryz.ntmps83
  go_wp2_with fail
  go_loopw [3, 4] (fun s i wq => ∃ (k : Nat) (m : Int), 1 ≤ k ∧ k ≤ n ∧ i = .int .i64 (k : Int) ∧ s = .int .i64 m ∧ Hid (maxT l k = m) ∧ wq = W) (fun _ i _ => n - (intOf i).toNat)
  case atStart => exact ⟨1, x0, Nat.le_refl _, h0, rfl, rfl, HM1, rfl⟩
  case round =>
    obtain ⟨k, m1, hk1, hk, rfl, rfl, HM, rfl⟩ := hrel
    rename World => W
    clear HM1 a0
    by_cases hlt : k < n
    · have hlt2 : k < l.length := by rw [HN.out]; exact hlt
      obtain ⟨x, hx⟩ : ∃ x, l[k]! = x := ⟨_, rfl⟩
      obtain ⟨g2, o2, e9, d1⟩ := NRow.at HC.out hlt2 hx
      simp only [Option.some.injEq, Addr.mk.injEq, and_true] at e9
      obtain ⟨rfl, rfl⟩ := e9
      by_cases hc : m1 < x
      · have HM2 : Hid (maxT l (k + 1) = x) := hide (by rw [maxT_next hlt2 hx, HM.out, if_pos hc])
        have e1 : decide (m1 < x) = true := decide_eq_true hc
        have e2 : decide (x < m1) = false := decide_eq_false (by omega)
        clear hx hlt2
        go_wp2
        exact ⟨⟨k + 1, x, by omega, by omega, by first | rfl | go_num, rfl, HM2, trivial⟩, by simp [intOf]; omega⟩
      · have HM2 : Hid (maxT l (k + 1) = m1) := hide (by rw [maxT_next hlt2 hx, HM.out, if_neg hc])
        have e1 : decide (m1 < x) = false := decide_eq_false hc
        clear hx hlt2
        go_wp2
        exact ⟨⟨k + 1, m1, by omega, by omega, by first | rfl | go_num, rfl, HM2, trivial⟩, by simp [intOf]; omega⟩
    · obtain rfl : k = n := by omega
      have hmm : m1 = m := by rw [← HM.out, HM0.out]
      subst hmm
      go_wp2
      go_ret
      exact ⟨rfl, rfl⟩
def RisI (l : List Int) (k : Nat) (m : Int) : Prop := ris (l.take k) ∧ (∀ y ∈ l.take k, y ≤ m) ∧ (m = 0 ∨ m ∈ l.take k)
theorem RisI.start (l : List Int) : RisI l 0 0 := ⟨⟨by simp, by simp⟩, by simp, .inl rfl⟩
theorem RisI.step {l : List Int} {k : Nat} {x m : Int} (h : RisI l k m) (hk : k < l.length) (hx : l[k]! = x) (h1 : ¬ x ≤ m) (h2 : posI x) : RisI l (k + 1) x := by
  have ht : l.take (k + 1) = l.take k ++ [x] := by rw [List.take_succ_eq_append_getElem hk, ← hx, getElem!_pos l k hk]
  refine ⟨⟨?_, ?_⟩, ?_, ?_⟩
  · rw [ht, List.pairwise_append]
    refine ⟨h.1.1, by simp, fun a ha b hb => ?_⟩
    simp only [List.mem_singleton] at hb
    have := h.2.1 a ha
    omega
  · rw [ht]
    intro y hy
    rcases List.mem_append.1 hy with hy | hy
    · exact h.1.2 y hy
    · simp only [List.mem_singleton] at hy
      rw [hy]; exact h2
  · rw [ht]
    intro y hy
    rcases List.mem_append.1 hy with hy | hy
    · have := h.2.1 y hy
      omega
    · simp only [List.mem_singleton] at hy
      omega
  · rw [ht]
    exact .inr (List.mem_append.2 (.inr (List.mem_singleton.2 rfl)))
theorem RisI.not {l : List Int} {k : Nat} {x m : Int} (h : RisI l k m) (hk : k < l.length) (hx : l[k]! = x) (h1 : x ≤ m) : ¬ ris l := fun hr => by
  rcases h.2.2 with h0 | h0
  · have := (hr.2 x (mem_at hk hx)).1
    omega
  · have ht : l = l.take k ++ l.drop k := (List.take_append_drop k l).symm
    have h9 := hr.1
    rw [ht, List.pairwise_append] at h9
    have h8 := h9.2.2 m h0 x (by
      rw [List.drop_eq_getElem_cons hk, ← hx, getElem!_pos l k hk]
      exact List.mem_cons_self ..)
    omega
theorem RisI.end_ {l : List Int} {k : Nat} {m : Int} (h : RisI l k m) (hk : l.length ≤ k) : ris l := by
  have h9 := h.1
  rw [List.take_of_length_le hk] at h9
  exact h9
set_option maxRecDepth 100000 in
set_option maxHeartbeats 4000000 in
theorem rises_any {W : World} {p : Option Addr} {n c : Nat} {l : List Int} (h : NRow W p c l) (hn : l.length = n) {rb : Bool} (hrb : decide (ris l) = rb) :
    Calls Tryz.prog 60 #[.slice p n c] W fun e w' => e = .returned (.bool rb) ∧ Below W.heap.size W w' := by
  have i1 := h.le
  have i2 := h.top
  rw [hn] at i1
  have H := hide h
  have HN := hide hn
  have HRB := hide hrb
  clear h hn hrb
  go_enter Tryz.func60, Tryz.ntmps60
  go_wp2_with fail
  go_loopw [3, 8] (fun s i wr => ∃ (k : Nat) (m : Int), k ≤ n ∧ i = .int .i64 (k : Int) ∧ s = .int .i64 m ∧ Hid (RisI l k m) ∧ Hid (Below W.heap.size W wr)) (fun _ i _ => n - (intOf i).toNat)
  case atStart => exact ⟨0, 0, Nat.zero_le _, rfl, rfl, hide (RisI.start l), hide (Below.refl _ _)⟩
  case round =>
    obtain ⟨k, m, hk, rfl, rfl, HT, HB⟩ := hrel
    rename World => wr
    by_cases hlt : k < n
    · have hlt2 : k < l.length := by rw [HN.out]; exact hlt
      obtain ⟨x, hx⟩ : ∃ x, l[k]! = x := ⟨_, rfl⟩
      obtain ⟨g1, o1, rfl, a0⟩ := NRow.at (NRow.later H.out HB.out) hlt2 hx
      by_cases h1 : x ≤ m
      · have HF : Hid (rb = false) := hide (by rw [← HRB.out]; exact decide_eq_false (HT.out.not hlt2 hx h1))
        have e1 : decide (x ≤ m) = true := decide_eq_true h1
        clear hx hlt2 h1
        go_wp2
        go_ret
        exact ⟨by rw [HF.out]; rfl, HB.out⟩
      · have e1 : decide (x ≤ m) = false := decide_eq_false h1
        by_cases h2 : posI x
        · have HT2 := hide (HT.out.step hlt2 hx h1 h2)
          have H2 := hide h2
          clear hx hlt2 h1 h2
          go_wp2_with fail
          refine (isId_any (decide_eq_true H2.out)).mono ?_
          rintro _ _ ⟨rfl, rfl⟩
          go_wp2
          exact ⟨⟨k + 1, x, by omega, by first | rfl | go_num, rfl, HT2, HB⟩, by simp [intOf]; omega⟩
        · have HF : Hid (rb = false) := hide (by rw [← HRB.out]; exact decide_eq_false (fun h9 => h2 (h9.2 x (mem_at hlt2 hx))))
          have H2 := hide h2
          clear hx hlt2 h1 h2
          go_wp2_with fail
          refine (isId_any (decide_eq_false H2.out)).mono ?_
          rintro _ _ ⟨rfl, rfl⟩
          go_wp2
          go_ret
          exact ⟨by rw [HF.out]; rfl, HB.out⟩
    · obtain rfl : k = n := by omega
      have HF : Hid (rb = true) := hide (by rw [← HRB.out]; exact decide_eq_true (HT.out.end_ (by rw [HN.out]; exact Nat.le_refl _)))
      go_wp2
      go_ret
      exact ⟨by rw [HF.out]; rfl, HB.out⟩
set_option maxRecDepth 100000 in
set_option maxHeartbeats 4000000 in
theorem untouched_any {W : World} {reg : Int} {op vp dp pp : Option Addr} {on oc vn vc dn dc tn pc : Nat} {vec : List Int} (hv : NRow W vp vc vec) (hvn : vec.length = vn) (h0 : 0 < vn) (ho : on ≤ 4096) (hd : dn < 4611686018427387904) (ht : tn ≤ 8) {rb : Bool} (hrb : decide (on = 0 ∧ dn = 0 ∧ tn = 0 ∧ maxT vec vn = 0) = rb) :
    Calls Tryz.prog 62 #[.agg #[.int .i64 reg, .slice op on oc, .slice vp vn vc, .slice dp dn dc, .slice pp tn pc]] W fun e w' => e = .returned (.bool rb) ∧ Below W.heap.size W w' := by
  have HVN := hide hvn
  have HV2 := hide hv
  have HRB := hide hrb
  clear hv hvn hrb
  by_cases h1 : on = 0 ∧ dn = 0 ∧ tn = 0
  · obtain ⟨m, hm⟩ : ∃ m, maxT vec vn = m := ⟨_, rfl⟩
    have HMX := hide hm
    by_cases h2 : m = 0
    · have HF : Hid (rb = true) := hide (by rw [← HRB.out]; exact decide_eq_true ⟨h1.1, h1.2.1, h1.2.2, by rw [hm, h2]⟩)
      obtain ⟨rfl, rfl, rfl⟩ := h1
      subst h2
      clear hm
      obtain ⟨V, hV⟩ : ∃ V, V = W.alloc (.cells #[.int .i64 reg, .slice op 0 oc, .slice vp vn vc, .slice dp 0 dc, .slice pp 0 pc] 26 (0, 0)) := ⟨_, rfl⟩
      have HV : Hid (V.heap[W.heap.size]? = some (.cells #[.int .i64 reg, .slice op 0 oc, .slice vp vn vc, .slice dp 0 dc, .slice pp 0 pc] 26 (0, 0))) := hide (by rw [hV]; exact heap_alloc_new W _)
      have HBV : Hid (Below W.heap.size W V) := hide (by rw [hV]; exact alloc_below _ _)
      obtain ⟨bB, hbB⟩ : ∃ bB, W.heap.size = bB := ⟨_, rfl⟩
      rw [hbB] at HV HBV
      have HZbB := hide hbB
      go_enter Tryz.func62, Tryz.ntmps62
      go_upto_region 1 with fail
      rw [← hV]
      try rw [hbB]
      clear hV hbB
      have u1 := cellB HV.out (i := 1) rfl
      have u2 := cellB HV.out (i := 2) rfl
      have u3 := cellB HV.out (i := 3) rfl
      have u4 := cellB HV.out (i := 4) rfl
      go_wp2_with fail
      refine (max_any (NRow.later HV2.out (by rw [HZbB.out]; exact HBV.out)) HVN.out h0 HMX.out).mono ?_
      rintro _ _ ⟨rfl, rfl⟩
      go_wp2
      go_ret
      exact ⟨by rw [HF.out]; rfl, by rw [HZbB.out]; exact HBV.out⟩
    · have HF : Hid (rb = false) := hide (by rw [← HRB.out]; exact decide_eq_false (fun h9 => h2 (by rw [← hm]; exact h9.2.2.2)))
      have e2 : (m == 0) = false := by simpa using h2
      obtain ⟨rfl, rfl, rfl⟩ := h1
      clear hm h2
      obtain ⟨V, hV⟩ : ∃ V, V = W.alloc (.cells #[.int .i64 reg, .slice op 0 oc, .slice vp vn vc, .slice dp 0 dc, .slice pp 0 pc] 26 (0, 0)) := ⟨_, rfl⟩
      have HV : Hid (V.heap[W.heap.size]? = some (.cells #[.int .i64 reg, .slice op 0 oc, .slice vp vn vc, .slice dp 0 dc, .slice pp 0 pc] 26 (0, 0))) := hide (by rw [hV]; exact heap_alloc_new W _)
      have HBV : Hid (Below W.heap.size W V) := hide (by rw [hV]; exact alloc_below _ _)
      obtain ⟨bB, hbB⟩ : ∃ bB, W.heap.size = bB := ⟨_, rfl⟩
      rw [hbB] at HV HBV
      have HZbB := hide hbB
      go_enter Tryz.func62, Tryz.ntmps62
      go_upto_region 1 with fail
      rw [← hV]
      try rw [hbB]
      clear hV hbB
      have u1 := cellB HV.out (i := 1) rfl
      have u2 := cellB HV.out (i := 2) rfl
      have u3 := cellB HV.out (i := 3) rfl
      have u4 := cellB HV.out (i := 4) rfl
      go_wp2_with fail
      refine (max_any (NRow.later HV2.out (by rw [HZbB.out]; exact HBV.out)) HVN.out h0 HMX.out).mono ?_
      rintro _ _ ⟨rfl, rfl⟩
      go_wp2
      go_ret
      exact ⟨by rw [HF.out]; rfl, by rw [HZbB.out]; exact HBV.out⟩
  · have HF : Hid (rb = false) := hide (by rw [← HRB.out]; exact decide_eq_false (fun h9 => h1 ⟨h9.1, h9.2.1, h9.2.2.1⟩))
    have e1 : ((on : Int) + (dn : Int) + (tn : Int) == 0) = false := by
      rw [beq_eq_false_iff_ne]
      intro h9
      exact h1 ⟨by omega, by omega, by omega⟩
    have w1 : IntKind.i64.wrap ((on : Int) + (dn : Int)) = (on : Int) + (dn : Int) := by rw [IntKind.wrap_i64]; omega
    have w2 : IntKind.i64.wrap ((on : Int) + (dn : Int) + (tn : Int)) = (on : Int) + (dn : Int) + (tn : Int) := by rw [IntKind.wrap_i64]; omega
    clear h1
    obtain ⟨V, hV⟩ : ∃ V, V = W.alloc (.cells #[.int .i64 reg, .slice op on oc, .slice vp vn vc, .slice dp dn dc, .slice pp tn pc] 26 (0, 0)) := ⟨_, rfl⟩
    have HV : Hid (V.heap[W.heap.size]? = some (.cells #[.int .i64 reg, .slice op on oc, .slice vp vn vc, .slice dp dn dc, .slice pp tn pc] 26 (0, 0))) := hide (by rw [hV]; exact heap_alloc_new W _)
    have HBV : Hid (Below W.heap.size W V) := hide (by rw [hV]; exact alloc_below _ _)
    obtain ⟨bB, hbB⟩ : ∃ bB, W.heap.size = bB := ⟨_, rfl⟩
    rw [hbB] at HV HBV
    have HZbB := hide hbB
    go_enter Tryz.func62, Tryz.ntmps62
    go_upto_region 1 with fail
    rw [← hV]
    try rw [hbB]
    clear hV hbB
    have u1 := cellB HV.out (i := 1) rfl
    have u2 := cellB HV.out (i := 2) rfl
    have u3 := cellB HV.out (i := 3) rfl
    have u4 := cellB HV.out (i := 4) rfl
    go_wp2
    go_ret
    exact ⟨by rw [HF.out]; rfl, by rw [HZbB.out]; exact HBV.out⟩
end Go.Proofs.YtboofnkajjnmeaaGreat
