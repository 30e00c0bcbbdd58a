/-
  What a crash leaves is what comes of a beginning of the writes, plainly. No conditions.
-/
import Derived.Test.YtikpckmlnhcddaaGreatBui
import Derived.Test.YtikpckmlnhcddaaGreatLnm
namespace Go.Proofs.YtikpckmlnhcddaaGreat
open Go.RowKit Go.Maps

def OpV.cp (o : OpV) : CP := ⟨o.s.data.toList, o.k.toNat, o.b⟩
def withP (r : RC) (P : List CP) : RC := { r with P := P }

theorem step_down {o : OpV} {r : RC} (h : o.builds = true) : (o.step r).down = r.down := by
  unfold OpV.builds at h
  simp at h
  unfold OpV.step stepC
  split
  · unfold RC.create; split <;> rfl
  split
  · unfold RC.write; split <;> rfl
  split
  · unfold RC.cut; split <;> rfl
  split
  · unfold RC.sync; split <;> rfl
  split
  · unfold RC.rename; split <;> rfl
  split
  · unfold RC.remove; split <;> rfl
  rw [if_neg h.1, if_neg h.2]
theorem build_down (os : List OpV) : ∀ (r : RC), (buildC r os).down = r.down := by
  induction os with
  | nil => intro r; rfl
  | cons o os ih =>
    intro r
    show (buildC (if o.builds then o.step r else r) os).down = _
    rw [ih]
    split
    · rename_i h; exact step_down h
    · rfl

theorem sync_names (r : RC) (n : Nm) : (r.sync n).L.map CF.name = r.L.map CF.name := by
  unfold RC.sync
  split
  · exact setC_names _ _ _
  · rfl
theorem sync_down (r : RC) (n : Nm) : (r.sync n).down = r.down := by unfold RC.sync; split <;> rfl
def syncs (r : RC) (ns : List Nm) : RC := ns.foldl RC.sync r
theorem syncs_snoc (r : RC) (ns : List Nm) (n : Nm) : syncs r (ns ++ [n]) = (syncs r ns).sync n := by simp [syncs]
theorem syncs_names (ns : List Nm) : ∀ r : RC, (syncs r ns).L.map CF.name = r.L.map CF.name := by
  induction ns with
  | nil => intro r; rfl
  | cons n ns ih => intro r; show (syncs (r.sync n) ns).L.map CF.name = _; rw [ih, sync_names]
theorem syncs_down (ns : List Nm) : ∀ r : RC, (syncs r ns).down = r.down := by
  induction ns with
  | nil => intro r; rfl
  | cons n ns ih => intro r; show (syncs (r.sync n) ns).down = _; rw [ih, sync_down]
theorem syncs_P (ns : List Nm) : ∀ r : RC, r.down = false → (∀ p ∈ r.P, p.name ∈ ns) → (∀ n ∈ ns, n ∈ r.L.map CF.name) → (syncs r ns).P = [] := by
  induction ns with
  | nil =>
    intro r _ h _
    cases hP : r.P with
    | nil => exact hP
    | cons p P => have := h p (by rw [hP]; simp); simp at this
  | cons n ns ih =>
    intro r hd h hn
    show (syncs (r.sync n) ns).P = []
    have hm : r.may n = 0 := by unfold RC.may; rw [hd, has_iff.2 (hn n (by simp))]; rfl
    refine ih _ (by rw [sync_down]; exact hd) (fun p hp => ?_) (fun m hm' => by rw [sync_names]; exact hn m (by simp [hm']))
    unfold RC.sync at hp
    rw [if_pos hm] at hp
    obtain ⟨hp1, hp2⟩ := List.mem_filter.1 hp
    have := h p hp1
    simp only [List.mem_cons] at this
    rcases this with e | e
    · simp [e] at hp2
    · exact e

/-- What was written, and that each of it went. -/
structure Wrote (rS : RC) (w : List OpV) (r : RC) : Prop where
  is : r = withP rS (w.map OpV.cp)
  ok : ∀ j (hj : j < w.length), (withP rS ((w.take j).map OpV.cp)).writeE w[j].s.data.toList w[j].k w[j].b = 0 ∧ w[j].b ≠ [] ∧ w[j].d = 1
theorem Wrote.nil {rS : RC} (h : rS.P = []) : Wrote rS [] rS := ⟨by unfold withP; simp [← h], by simp⟩
theorem Wrote.put {rS r : RC} {w : List OpV} (h : Wrote rS w r) {o : OpV} (hE : r.writeE o.s.data.toList o.k o.b = 0) (hb : o.b ≠ []) (hd : o.d = 1) : Wrote rS (w ++ [o]) (r.write o.s.data.toList o.k o.b) := by
  refine ⟨?_, fun j hj => ?_⟩
  · unfold RC.write
    rw [if_pos ⟨hE, hb⟩]
    have := h.is
    rw [this]
    simp [withP, OpV.cp]
  · rcases Nat.lt_or_ge j w.length with h' | h'
    · rw [List.getElem_append_left h', List.take_append_of_le_length (by omega)]
      exact h.ok j h'
    · obtain rfl : j = w.length := by simp at hj; omega
      rw [List.getElem_append_right (Nat.le_refl _), List.take_append_of_le_length (Nat.le_refl _), List.take_length]
      simp only [Nat.sub_self, List.getElem_cons_zero]
      rw [← h.is]
      exact ⟨hE, hb, hd⟩
theorem Wrote.skip {rS r : RC} {w : List OpV} (h : Wrote rS w r) {n : Nm} {k : Int} {b : By} (hE : ¬ (r.writeE n k b = 0 ∧ b ≠ [])) : Wrote rS w (r.write n k b) := by
  unfold RC.write
  rw [if_neg hE]
  exact h

theorem write_less {r : RC} {n : Nm} {k : Int} {b : By} (h : r.writeE n k b = 0) (m : Nat) : r.writeE n k (b.take m) = 0 := by
  unfold RC.writeE at h ⊢
  by_cases hm : r.may n = 0
  · rw [if_pos hm] at h ⊢
    by_cases hk : k < 0 ∨ ((r.all n).length : Int) < k
    · rw [if_pos hk] at h; simp at h
    · rw [if_neg hk] at h ⊢
      by_cases hr : 0 < more (r.all n).length k b ∧ r.left < more (r.all n).length k b
      · rw [if_pos hr] at h; simp at h
      · rw [if_neg]
        have : (b.take m).length ≤ b.length := by simp; omega
        unfold more at hr ⊢
        omega
  · rw [if_neg hm] at h; exact absurd h hm
theorem writeE_k {r : RC} {n : Nm} {k : Int} {b : By} (h : r.writeE n k b = 0) : 0 ≤ k := by
  unfold RC.writeE at h
  by_cases hm : r.may n = 0
  · rw [if_pos hm] at h
    by_cases hk : k < 0 ∨ ((r.all n).length : Int) < k
    · rw [if_pos hk] at h; simp at h
    · omega
  · rw [if_neg hm] at h; exact absurd h hm

theorem putL_nil (c : List Int) (k : Nat) : putL c k [] = c := by simp [putL]
theorem one_empty (B : Nm → By) {p : CP} (h : p.b = []) : one B p = B := by
  funext m
  unfold one upd
  split
  · rename_i e; subst e; rw [h, putL_nil]
  · rfl
def some_ (P : List CP) : List CP := P.filter (fun p => !(p.b == []))
theorem allB_some : ∀ (P : List CP) (B : Nm → By), allB B (some_ P) = allB B P
  | [], _ => rfl
  | p :: P, B => by
    unfold some_
    by_cases h : p.b = []
    · rw [List.filter_cons_of_neg (by simp [h])]
      show allB B (some_ P) = _
      rw [allB_cons, one_empty B h, allB_some P B]
    · rw [List.filter_cons_of_pos (by simpa using h), allB_cons, allB_cons]
      exact allB_some P _
theorem all_some (rS : RC) (P : List CP) (n : Nm) : (withP rS (some_ P)).all n = allB (base rS.L) P n := by
  unfold RC.all withP
  simp only
  rw [allB_some]

/-- A write of the beginnings, or of a torn one, goes as it went. -/
theorem Wrote.again {rS r : RC} {w : List OpV} (h : Wrote rS w r) {n j : Nat} (torn : Int) (hn : n ≤ w.length) (hj : j < w.length) (hjn : j ≤ n) {m : Nat} (hm1 : j ≠ n → m = w[j].b.length) (hm2 : j = n → m = (mag torn).toNat % (w[j].b.length + 1)) :
    (withP rS (some_ ((kept (w.map OpV.cp) n torn).take j))).writeE w[j].s.data.toList w[j].k (w[j].b.take m) = 0 ∧
    (withP rS (some_ ((kept (w.map OpV.cp) n torn).take j))).write w[j].s.data.toList w[j].k (w[j].b.take m) = withP rS (some_ ((kept (w.map OpV.cp) n torn).take (j + 1))) ∧
    (withP rS (some_ ((kept (w.map OpV.cp) n torn).take j))).writeE w[j].s.data.toList w[j].k w[j].b = 0 := by
  obtain ⟨hE, hb, _⟩ := h.ok j hj
  have hl : (w.map OpV.cp).length = w.length := by simp
  have e1 : (kept (w.map OpV.cp) n torn).take j = (w.take j).map OpV.cp := by rw [kept_le (by rw [hl]; exact hn) hjn, List.map_take]
  have e2 : some_ ((w.take j).map OpV.cp) = (w.take j).map OpV.cp := by
    unfold some_
    refine List.filter_eq_self.2 (fun p hp => ?_)
    obtain ⟨o, ho, rfl⟩ := List.mem_map.1 hp
    obtain ⟨i, hi, rfl⟩ := List.getElem_of_mem ho
    have hi' : i < w.length := by rw [List.length_take] at hi; omega
    rw [List.getElem_take]
    have := (h.ok i hi').2.1
    simpa [OpV.cp] using this
  rw [e1, e2]
  have hE' := write_less hE m
  refine ⟨hE', ?_, hE⟩
  have e3 : (kept (w.map OpV.cp) n torn).take (j + 1) = (w.take j).map OpV.cp ++ [⟨w[j].s.data.toList, w[j].k.toNat, w[j].b.take m⟩] := by
    by_cases hjn' : j = n
    · have hm3 := hm2 hjn'
      clear hm1 hm2
      subst hjn'
      rw [kept_eq (P := w.map OpV.cp) (n := j) (torn := torn) (by rw [hl]; omega), e1, hm3]
      simp [OpV.cp]
    · have := kept_lt (P := w.map OpV.cp) (n := n) (i := j) (torn := torn) (by rw [hl]; exact hn) (by omega)
      rw [this, e1, hm1 hjn', List.take_length]
      simp [OpV.cp]
  rw [e3]
  unfold some_
  rw [List.filter_append]
  show _ = withP rS (some_ ((w.take j).map OpV.cp) ++ _)
  rw [e2]
  unfold RC.write
  by_cases hbm : w[j].b.take m = []
  · rw [if_neg (fun hc => hc.2 hbm), hbm]
    simp
  · rw [if_pos ⟨hE', hbm⟩]
    have hf : [(⟨w[j].s.data.toList, w[j].k.toNat, w[j].b.take m⟩ : CP)].filter (fun p => !(p.b == [])) = [⟨w[j].s.data.toList, w[j].k.toNat, w[j].b.take m⟩] := by
      rw [List.filter_cons_of_pos (by simpa using hbm)]; rfl
    rw [hf]
    rfl
theorem write_len {W : World} {sb mb N : Nat} {fs : List MF} {r : RC} (h : Prg W sb mb fs r N) {n : Nm} {k : Int} {b : By} (hE : r.writeE n k b = 0) : b.length ≤ 4194304 := by
  obtain ⟨J, left, pend, turn, _, h2⟩ := h
  unfold RC.writeE at hE
  by_cases hm : r.may n = 0
  · rw [if_pos hm] at hE
    obtain ⟨_, hh⟩ := may_up hm
    obtain ⟨f, hf⟩ := h2.has_some hh
    obtain ⟨hfm, hfn⟩ := mem_of_fileOf hf
    have h3 := h2.clen hfm
    rw [h2.con f hfm, hfn, h2.leftE] at h3
    have h4 := h2.most
    have h5 := h2.left0
    rw [h2.leftE] at h5
    by_cases hk : k < 0 ∨ ((r.all n).length : Int) < k
    · rw [if_pos hk] at hE; simp at hE
    · rw [if_neg hk] at hE
      by_cases hr : 0 < more (r.all n).length k b ∧ r.left < more (r.all n).length k b
      · rw [if_pos hr] at hE; simp at hE
      · unfold more at hr
        omega
  · rw [if_neg hm] at hE; exact absurd hE hm
theorem kept_stay {P : List CP} {n j : Nat} {torn : Int} (h : n < j) : (kept P n torn).take (j + 1) = (kept P n torn).take j := kept_gt h

/-- What is there behind the crash. -/
theorem crash_all {r : RC} (hd : r.down = false) {n : Nat} (hn : n ≤ r.P.length) {torn : Int} {m : Nm} (hm : m ∈ r.L.map CF.name) : ((r.crash (n : Int) torn).start).all m = allB (base r.L) (kept r.P n torn) m := by
  have e : (mag (n : Int)).toNat % (r.P.length + 1) = n := by
    unfold mag
    rw [if_neg (by omega), if_neg (by omega)]
    simp
    omega
  unfold RC.crash
  rw [if_neg (by simp [hd]), e]
  unfold RC.start
  simp only [if_true]
  unfold RC.all
  simp only
  rw [allB_nil]
  have e1 : fileC (r.L.map (fun f => { f with b := allB (base r.L) (kept r.P n torn) f.name })) m = (fileC r.L m).map (fun f => { f with b := allB (base r.L) (kept r.P n torn) f.name }) := by
    unfold fileC
    rw [List.find?_map]
    rfl
  have e0 : base (r.L.map (fun f => { f with b := allB (base r.L) (kept r.P n torn) f.name })) m = (match fileC (r.L.map (fun f => { f with b := allB (base r.L) (kept r.P n torn) f.name })) m with | some f => f.b | none => []) := rfl
  rw [e0, e1]
  cases hf : fileC r.L m with
  | none => exact absurd hm (fileC_none.1 hf)
  | some f =>
    have : f.name = m := by simpa using List.find?_some hf
    simp [this]
theorem crash_names {r : RC} {k torn : Int} : ((r.crash k torn).start).L.map CF.name = r.L.map CF.name := by
  unfold RC.crash
  split
  · unfold RC.start; split <;> rfl
  · unfold RC.start
    simp only [if_true, List.map_map]
    rfl
theorem crash_up {r : RC} (hd : r.down = false) {k torn : Int} : r.crashE = 0 ∧ (r.crash k torn).startE = 0 ∧ ((r.crash k torn).start).down = false := by
  have : (r.crash k torn).down = true := by unfold RC.crash; rw [if_neg (by simp [hd])]
  refine ⟨by simp [RC.crashE, hd], by simp [RC.startE, this], ?_⟩
  unfold RC.start
  rw [if_pos this]
end Go.Proofs.YtikpckmlnhcddaaGreat

/-
  The program's store beside other blocks: two stores, rows that lie apart; Pending, Size, Read of it. The conditions: lengths.
-/
namespace Go.Proofs.YtikpckmlnhcddaaGreat
open Go.RowKit Go.Maps

/-- Two stores of the program, apart from each other. -/
structure Pair (W : World) (sb mb tb tm : Nat) (fs gs : List MF) (r q : RC) (N M B : Nat) : Prop where
  s : Prg W sb mb fs r N
  t : Prg W tb tm gs q M
  st : ∀ i, own sb mb fs i → ¬ own tb tm gs i ∧ ¬ covs gs i
  ts : ∀ i, own tb tm gs i → ¬ covs fs i
  sB : ∀ i, own sb mb fs i → B ≤ i
  tB : ∀ i, own tb tm gs i → B ≤ i
theorem Pair.fresh {W W' : World} {sb mb tb tm N M B : Nat} {fs gs : List MF} {r q : RC} (h : Pair W sb mb tb tm fs gs r q N M B) (hb : Below W.heap.size W W') : Pair W' sb mb tb tm fs gs r q N M B :=
  ⟨h.s.only (Only.fresh hb fun _ => False) (fun _ _ e => e) (fun _ _ e => e), h.t.only (Only.fresh hb fun _ => False) (fun _ _ e => e) (fun _ _ e => e), h.st, h.ts, h.sB, h.tB⟩
theorem Pair.left {W W' : World} {sb mb tb tm N M N' B : Nat} {fs gs fs' : List MF} {r q r' : RC} (h : Pair W sb mb tb tm fs gs r q N M B) (hB : B ≤ W.heap.size) (hp : Prg W' sb mb fs' r' N') (hs : Step W W' sb mb fs fs') : Pair W' sb mb tb tm fs' gs r' q N' M B ∧ Below B W W' := by
  refine ⟨⟨hp, h.t.only hs.only (fun i hi ho => (h.st i ho).1 hi) (fun i hi ho => (h.st i ho).2 hi), fun i hi => ?_, fun i hi hc => ?_, fun i hi => ?_, h.tB⟩, hs.only.below hB h.sB⟩
  · rcases hs.own i hi with h1 | h1
    · exact h.st i h1
    · exact ⟨fun e => by have := h.t.own_lt e; omega, fun e => by have := h.t.cov_lt e; omega⟩
  · rcases hs.cov i hc with h1 | h1
    · exact h.ts i hi h1
    · have := h.t.own_lt hi; omega
  · rcases hs.own i hi with h1 | h1
    · exact h.sB i h1
    · omega
theorem Pair.right {W W' : World} {sb mb tb tm N M M' B : Nat} {fs gs gs' : List MF} {r q q' : RC} (h : Pair W sb mb tb tm fs gs r q N M B) (hB : B ≤ W.heap.size) (hp : Prg W' tb tm gs' q' M') (hs : Step W W' tb tm gs gs') : Pair W' sb mb tb tm fs gs' r q' N M' B ∧ Below B W W' := by
  refine ⟨⟨h.s.only hs.only (fun i hi ho => (h.st i hi).1 ho) (fun i hi ho => h.ts i ho hi), hp, fun i hi => ⟨fun e => ?_, fun e => ?_⟩, fun i hi hc => ?_, h.sB, fun i hi => ?_⟩, hs.only.below hB h.tB⟩
  · rcases hs.own i e with h1 | h1
    · exact (h.st i hi).1 h1
    · have := h.s.own_lt hi; omega
  · rcases hs.cov i e with h1 | h1
    · exact (h.st i hi).2 h1
    · have := h.s.own_lt hi; omega
  · rcases hs.own i hi with h1 | h1
    · exact h.ts i h1 hc
    · have := h.s.cov_lt hc; omega
  · rcases hs.own i hi with h1 | h1
    · exact h.tB i h1
    · omega
theorem two_pair {w1 w2 : World} {sb mb rb tb tm rc N M B : Nat} {fs gs : List MF} {r q : RC} {R Q : RS} (h1 : Two w1 sb mb rb fs r R N B) (h2 : Two w2 tb tm rc gs q Q M w1.heap.size) (hb : Below w1.heap.size w1 w2) (hB : B ≤ w1.heap.size) : Pair w2 sb mb tb tm fs gs r q N M B := by
  refine ⟨h1.prg.only (Only.fresh hb fun _ => False) (fun _ _ e => e) (fun _ _ e => e), h2.prg, fun i hi => ⟨fun e => ?_, fun e => ?_⟩, fun i hi e => ?_, h1.base, fun i hi => Nat.le_trans hB (h2.base i hi)⟩
  · have := h1.prg.own_lt hi; have := h2.base i e; omega
  · have := h1.prg.own_lt hi; have := h2.cbase i e; omega
  · have := h1.prg.cov_lt e; have := h2.base i hi; omega
theorem Prg.link {W : World} {sb mb N : Nat} {fs : List MF} {r : RC} (h : Prg W sb mb fs r N) : ∀ p ∈ r.P, p.name ∈ r.L.map CF.name := by
  obtain ⟨J, left, pend, turn, _, h2⟩ := h
  intro p hp
  rw [h2.P] at hp
  obtain ⟨j, hj, rfl⟩ := List.mem_map.1 hp
  obtain ⟨f, hf, _, e⟩ := h2.link j hj
  rw [h2.names, ← e]
  exact List.mem_map.2 ⟨f, hf, rfl⟩
theorem Prg.nameLen {W : World} {sb mb N : Nat} {fs : List MF} {r : RC} (h : Prg W sb mb fs r N) {n : Nm} (hn : n ∈ r.L.map CF.name) : n.length ≤ maxLen := by
  obtain ⟨J, left, pend, turn, _, h2⟩ := h
  rw [h2.names] at hn
  obtain ⟨f, hf, rfl⟩ := List.mem_map.1 hn
  exact h2.nm f hf
theorem Prg.count {W : World} {sb mb N : Nat} {fs : List MF} {r : RC} (h : Prg W sb mb fs r N) : (r.L.map CF.name).length ≤ 4096 := by
  obtain ⟨J, left, pend, turn, _, h2⟩ := h
  rw [h2.names, List.length_map]
  exact h2.files
theorem ppending {W : World} {sb mb N : Nat} {fs : List MF} {r : RC} (h : Prg W sb mb fs r N) : Calls Tryz.prog 20 #[.pointer (some ⟨sb, 0, none⟩)] W fun e w' => e = .returned (.int .i64 (r.P.length : Int)) ∧ w' = W := by
  obtain ⟨J, left, pend, turn, h1, h2⟩ := h
  obtain ⟨c0, _, c2, _, _⟩ := box_cells h1.box
  have := pending_any c0 c2
  rw [h2.pend] at this
  rw [h2.P, List.length_map]
  exact this
theorem psize {W : World} {sb mb N : Nat} {fs : List MF} {r : RC} (h : Prg W sb mb fs r N) (hd : r.down = false) {s : ByteArray} (hn : s.data.toList ∈ r.L.map CF.name) {n : Nat} (hl : (r.all s.data.toList).length = n) : Calls Tryz.prog 29 #[.pointer (some ⟨sb, 0, none⟩), .string s] W fun e w' => e = .returned (.tuple #[.int .i64 (n : Int), .int .i64 0]) ∧ w' = W := by
  have hlen : s.size ≤ maxLen := by have := h.nameLen hn; simpa using this
  obtain ⟨J, left, pend, turn, h1, h2⟩ := h
  rw [hd] at h1
  obtain ⟨f, hf⟩ := h2.has_some (has_iff.2 hn)
  obtain ⟨hfm, hfn⟩ := mem_of_fileOf hf
  have := size_any h1 hlen
  rw [hf] at this
  simp only at this
  rw [h2.con f hfm, hfn, hl] at this
  exact this
theorem pread {W : World} {sb mb N : Nat} {fs : List MF} {r : RC} (h : Prg W sb mb fs r N) (hd : r.down = false) {s : ByteArray} (hn : s.data.toList ∈ r.L.map CF.name) {n : Nat} {c : By} (hc : r.all s.data.toList = c) (hl : c.length = n) : Calls Tryz.prog 28 #[.pointer (some ⟨sb, 0, none⟩), .string s, .int .i64 0, .int .i64 (n : Int)] W fun e w' => ∃ p cap, e = .returned (.tuple #[.slice p n cap, .int .i64 0]) ∧ w'.ownsRow W.heap.size 5 1 (.slice p n cap) n (c.map (Value.int .u8)) ∧ Below W.heap.size W w' := by
  have hlen : s.size ≤ maxLen := by have := h.nameLen hn; simpa using this
  obtain ⟨J, left, pend, turn, h1, h2⟩ := h
  rw [hd] at h1
  obtain ⟨f, hf⟩ := h2.has_some (has_iff.2 hn)
  obtain ⟨hfm, hfn⟩ := mem_of_fileOf hf
  have hfc : f.c = c := by rw [h2.con f hfm, hfn, hc]
  obtain ⟨_, l, rr, hs⟩ := fileOf_split hf
  subst hs
  have := read_some h1 hlen hf (at_ := 0) (n := n) (by rw [hfc]; omega) (h2.clen' hfm)
  rw [hfc, List.drop_zero, List.take_of_length_le (by omega)] at this
  exact this

/-- A slice lies in no block that a store writes to. -/
def Off (v : Value) (sb mb : Nat) (fs : List MF) : Prop := ∀ i, v.ownBlock = some i → ¬ own sb mb fs i
theorem Off.step {W W' : World} {v : Value} {sb mb : Nat} {fs fs' : List MF} (h : Off v sb mb fs) (hlt : ∀ i, v.ownBlock = some i → i < W.heap.size) (hs : Step W W' sb mb fs fs') : Off v sb mb fs' := fun i hi ho => by
  rcases hs.own i ho with h1 | h1
  · exact h i hi h1
  · have := hlt i hi; omega
theorem Off.row {W W' : World} {v : Value} {sb mb base n k : Nat} {e : TypeId} {fs fs' : List MF} {xs : List Value} (h : Off v sb mb fs) (ho : W.ownsRow base e k v n xs) (hs : Step W W' sb mb fs fs') : W'.ownsRow base e k v n xs ∧ Off v sb mb fs' :=
  ⟨ownsRow_only ho hs.only h, h.step (fun _ hi => (own_block_lt ho hi).1) hs⟩
theorem Off.new {W W' : World} {v : Value} {sb mb N base n k : Nat} {e : TypeId} {fs : List MF} {r : RC} {xs : List Value} (h : Prg W sb mb fs r N) (hb : W.heap.size ≤ base) (ho : W'.ownsRow base e k v n xs) : Off v sb mb fs := fun i hi hf => by
  have := h.own_lt hf
  have := own_block_base ho hi
  omega
theorem str_cells {W : World} {base n cap k : Nat} {p : Option Addr} {ns : List Nm} (h : W.ownsRow base 9 1 (.slice p n cap) n (ns.map strV)) (hl : ns.length = n) (hk : k < n) : ∃ g, p = some ⟨g, 0, none⟩ ∧ W.cell? ⟨g, k, none⟩ = some (strV (ns[k]!)) := by
  rcases h.2 with ⟨_, h0⟩ | ⟨g, cap', cur, he, _⟩
  · omega
  · simp only [Value.slice.injEq, true_and] at he
    obtain ⟨rfl, rfl⟩ := he
    refine ⟨g, rfl, ?_⟩
    rw [h.cellAt k (by omega), List.getElem?_map, List.getElem?_eq_getElem (by omega), getElem!_pos ns k (by omega)]
    rfl

theorem Tryz.infoOp : (Tryz.prog.info? 33).map (fun i => (i.zero, i.size, i.bytes)) = some (some (.agg #[.int .i64 0, .string ⟨#[]⟩, .string ⟨#[]⟩, .int .i64 0, .int .i64 0, .slice none 0 0]), 6, 80) := by kernel_rfl
theorem OpV.far {o : OpV} {W : World} {B sb mb : Nat} {fs : List MF} (h : o.ok W B) (hB : ∀ i, own sb mb fs i → B ≤ i) : o.b ≠ [] → Clear (own sb mb fs) (.slice o.bp o.b.length o.bc) := fun hb i hi ho => by
  have := h.far hb i hi
  have := hB i ho
  omega
theorem Prg.cov_kind {W : World} {sb mb N : Nat} {fs : List MF} {r : RC} (h : Prg W sb mb fs r N) {i : Nat} (hi : Go.Proofs.YtikpckmlnhcddaaGreat.covs fs i) : ∃ cur, W.heap[i]? = some (.cells cur 5 (0, 0)) := by
  obtain ⟨J, left, pend, turn, h1, _⟩ := h
  obtain ⟨f, hf, hi⟩ := hi
  exact (h1.files f hf).cov_kind hi
theorem Prg.off {W : World} {sb mb N base n k : Nat} {e : TypeId} {fs : List MF} {r : RC} {v : Value} {xs : List Value} (h : Prg W sb mb fs r N) (ho : W.ownsRow base e k v n xs) (h1 : e ≠ 63) (h2 : e ≠ 80) (h3 : e ≠ 5) (h4 : e ≠ 93) : Off v sb mb fs := by
  intro i hi hown
  obtain ⟨J, left, pend, turn, hs, _⟩ := h
  obtain ⟨_, cur, hc⟩ := own_block_lt ho hi
  rcases hown with rfl | rfl | ⟨f, hf, rfl | hb | hb⟩
  · rw [hs.box] at hc; simp at hc; exact h1 hc.2.symm
  · obtain ⟨es, clock, hb, _⟩ := hs.map
    rw [hb] at hc; simp at hc
  · rw [(hs.files f hf).box] at hc; simp at hc; exact h2 hc.2.symm
  · obtain ⟨_, cur', hc'⟩ := own_block_lt (hs.files f hf).con hb
    rw [hc'] at hc; simp at hc; exact h3 hc.2.symm
  · obtain ⟨_, cur', hc'⟩ := own_block_lt (hs.files f hf).pen hb
    rw [hc'] at hc; simp at hc; exact h4 hc.2.symm
theorem Pair.grown {W W' : World} {sb mb tb tm N M B n base : Nat} {fs gs : List MF} {r q : RC} {v : Value} {xs : List Value} (h : Pair W sb mb tb tm fs gs r q N M B) (ho : W.ownsRow base 33 6 v n xs) (h1 : Off v sb mb fs) (h2 : Off v tb tm gs) (hg : W.grownBy W' v.ownBlock) : Pair W' sb mb tb tm fs gs r q N M B := by
  have hF : Only (fun i => v.ownBlock = some i) W W' := Only.of_grown hg (fun k e => e)
  have hc : ∀ {sb mb N : Nat} {fs : List MF} {r : RC}, Prg W sb mb fs r N → ∀ i, covs fs i → ¬ v.ownBlock = some i := fun hp i hi e => by
    obtain ⟨cur, hk⟩ := hp.cov_kind hi
    obtain ⟨_, cur', hk'⟩ := own_block_lt ho e
    rw [hk] at hk'
    simp at hk'
  exact ⟨h.s.only hF (fun i hi e => h1 i e hi) (hc h.s), h.t.only hF (fun i hi e => h2 i e hi) (hc h.t), h.st, h.ts, h.sB, h.tB⟩
theorem op_cells {W : World} {base n cap k : Nat} {p : Option Addr} {os : List OpV} (h : W.ownsRow base 33 6 (.slice p n cap) n (os.flatMap OpV.cells)) (hl : os.length = n) (hk : k < n) : ∃ g, p = some ⟨g, 0, none⟩ ∧ ∀ j, j < 6 → W.cell? ⟨g, k * 6 + j, none⟩ = (os[k]!).cells[j]? := by
  rcases h.2 with ⟨_, h0⟩ | ⟨g, cap', cur, he, _⟩
  · omega
  · simp only [Value.slice.injEq, true_and] at he
    obtain ⟨rfl, rfl⟩ := he
    exact ⟨g, rfl, fun j hj => by rw [h.cellAt (k * 6 + j) (by omega), cellsN_get (c := OpV.cells) (n := 6) (fun _ => rfl) (by omega) hj]⟩
theorem op_one (o : OpV) : ∀ u ∈ o.cells, u.oneCell' = true := by
  intro u hu
  simp only [OpV.cells, List.mem_cons, List.not_mem_nil, or_false] at hu
  rcases hu with rfl | rfl | rfl | rfl | rfl | rfl <;> rfl
theorem psure {W : World} {sb mb N : Nat} {fs : List MF} {r : RC} (h : Prg W sb mb fs r N) (hd : r.down = false) (hP : r.P.length ≤ 2199023255552) {s : ByteArray} (hn : s.data.toList ∈ r.L.map CF.name) {c : By} (hc : base r.L s.data.toList = c) {L : Nat} (hL : c.length = L) : Calls Tryz.prog 17 #[.pointer (some ⟨sb, 0, none⟩), .string s] W fun e w' => ∃ p cap, e = .returned (.tuple #[.slice p L cap, .int .i64 0]) ∧ w'.ownsRow W.heap.size 5 1 (.slice p L cap) L (c.map (Value.int .u8)) ∧ Below W.heap.size W w' := by
  have hlen : s.size ≤ maxLen := by have := h.nameLen hn; simpa using this
  obtain ⟨J, left, pend, turn, h1, h2⟩ := h
  rw [hd] at h1
  obtain ⟨f, hf⟩ := h2.has_some (has_iff.2 hn)
  obtain ⟨hfm, hfn⟩ := mem_of_fileOf hf
  have hw : f.ws.length ≤ 2199023255552 := by
    rw [h2.ws f hfm, List.length_map]
    refine Nat.le_trans (List.length_filter_le _ _) ?_
    rw [h2.P] at hP
    simpa using hP
  have := sure_some h1 hlen hf (h2.clen' hfm) hw (fun k hk => h2.sureFits hfm hk)
  rw [h2.sure hfm, hfn, hc, hL] at this
  exact this
end Go.Proofs.YtikpckmlnhcddaaGreat
