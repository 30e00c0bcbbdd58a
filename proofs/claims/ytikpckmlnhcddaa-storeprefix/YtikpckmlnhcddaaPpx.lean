/-
  What a crash leaves is what comes of a beginning of the writes, plainly. No conditions.
-/
import Derived.Test.YtikpckmlnhcddaaBui
import Derived.Test.YtikpckmlnhcddaaLnm
namespace Go.Proofs.Ytikpckmlnhcddaa
open Go.RowKit Go.Maps

def OpV.cp (o : OpV) : CP := ⟨o.s.data.toList, o.k.toNat, o.b⟩
def withP (r : RC) (P : List CP) : RC := { r with P := P }

theorem step_down {o : OpV} {r : RC} (h : o.builds = true) : (o.step r).down = r.down := by
  unfold OpV.builds at h
  simp at h
  unfold OpV.step stepC
  split
  · unfold RC.create; split <;> rfl
  split
  · unfold RC.write; split <;> rfl
  split
  · unfold RC.cut; split <;> rfl
  split
  · unfold RC.sync; split <;> rfl
  split
  · unfold RC.rename; split <;> rfl
  split
  · unfold RC.remove; split <;> rfl
  rw [if_neg h.1, if_neg h.2]
theorem build_down (os : List OpV) : ∀ (r : RC), (buildC r os).down = r.down := by
  induction os with
  | nil => intro r; rfl
  | cons o os ih =>
    intro r
    show (buildC (if o.builds then o.step r else r) os).down = _
    rw [ih]
    split
    · rename_i h; exact step_down h
    · rfl

theorem sync_names (r : RC) (n : Nm) : (r.sync n).L.map CF.name = r.L.map CF.name := by
  unfold RC.sync
  split
  · exact setC_names _ _ _
  · rfl
theorem sync_down (r : RC) (n : Nm) : (r.sync n).down = r.down := by unfold RC.sync; split <;> rfl
def syncs (r : RC) (ns : List Nm) : RC := ns.foldl RC.sync r
theorem syncs_snoc (r : RC) (ns : List Nm) (n : Nm) : syncs r (ns ++ [n]) = (syncs r ns).sync n := by simp [syncs]
theorem syncs_names (ns : List Nm) : ∀ r : RC, (syncs r ns).L.map CF.name = r.L.map CF.name := by
  induction ns with
  | nil => intro r; rfl
  | cons n ns ih => intro r; show (syncs (r.sync n) ns).L.map CF.name = _; rw [ih, sync_names]
theorem syncs_down (ns : List Nm) : ∀ r : RC, (syncs r ns).down = r.down := by
  induction ns with
  | nil => intro r; rfl
  | cons n ns ih => intro r; show (syncs (r.sync n) ns).down = _; rw [ih, sync_down]
theorem syncs_P (ns : List Nm) : ∀ r : RC, r.down = false → (∀ p ∈ r.P, p.name ∈ ns) → (∀ n ∈ ns, n ∈ r.L.map CF.name) → (syncs r ns).P = [] := by
  induction ns with
  | nil =>
    intro r _ h _
    cases hP : r.P with
    | nil => exact hP
    | cons p P => have := h p (by rw [hP]; simp); simp at this
  | cons n ns ih =>
    intro r hd h hn
    show (syncs (r.sync n) ns).P = []
    have hm : r.may n = 0 := by unfold RC.may; rw [hd, has_iff.2 (hn n (by simp))]; rfl
    refine ih _ (by rw [sync_down]; exact hd) (fun p hp => ?_) (fun m hm' => by rw [sync_names]; exact hn m (by simp [hm']))
    unfold RC.sync at hp
    rw [if_pos hm] at hp
    obtain ⟨hp1, hp2⟩ := List.mem_filter.1 hp
    have := h p hp1
    simp only [List.mem_cons] at this
    rcases this with e | e
    · simp [e] at hp2
    · exact e

/-- What was written, and that each of it went. -/
structure Wrote (rS : RC) (w : List OpV) (r : RC) : Prop where
  is : r = withP rS (w.map OpV.cp)
  ok : ∀ j (hj : j < w.length), (withP rS ((w.take j).map OpV.cp)).writeE w[j].s.data.toList w[j].k w[j].b = 0 ∧ w[j].b ≠ [] ∧ w[j].d = 1
theorem Wrote.nil {rS : RC} (h : rS.P = []) : Wrote rS [] rS := ⟨by unfold withP; simp [← h], by simp⟩
theorem Wrote.put {rS r : RC} {w : List OpV} (h : Wrote rS w r) {o : OpV} (hE : r.writeE o.s.data.toList o.k o.b = 0) (hb : o.b ≠ []) (hd : o.d = 1) : Wrote rS (w ++ [o]) (r.write o.s.data.toList o.k o.b) := by
  refine ⟨?_, fun j hj => ?_⟩
  · unfold RC.write
    rw [if_pos ⟨hE, hb⟩]
    have := h.is
    rw [this]
    simp [withP, OpV.cp]
  · rcases Nat.lt_or_ge j w.length with h' | h'
    · rw [List.getElem_append_left h', List.take_append_of_le_length (by omega)]
      exact h.ok j h'
    · obtain rfl : j = w.length := by simp at hj; omega
      rw [List.getElem_append_right (Nat.le_refl _), List.take_append_of_le_length (Nat.le_refl _), List.take_length]
      simp only [Nat.sub_self, List.getElem_cons_zero]
      rw [← h.is]
      exact ⟨hE, hb, hd⟩
theorem Wrote.skip {rS r : RC} {w : List OpV} (h : Wrote rS w r) {n : Nm} {k : Int} {b : By} (hE : ¬ (r.writeE n k b = 0 ∧ b ≠ [])) : Wrote rS w (r.write n k b) := by
  unfold RC.write
  rw [if_neg hE]
  exact h

theorem write_less {r : RC} {n : Nm} {k : Int} {b : By} (h : r.writeE n k b = 0) (m : Nat) : r.writeE n k (b.take m) = 0 := by
  unfold RC.writeE at h ⊢
  by_cases hm : r.may n = 0
  · rw [if_pos hm] at h ⊢
    by_cases hk : k < 0 ∨ ((r.all n).length : Int) < k
    · rw [if_pos hk] at h; simp at h
    · rw [if_neg hk] at h ⊢
      by_cases hr : 0 < more (r.all n).length k b ∧ r.left < more (r.all n).length k b
      · rw [if_pos hr] at h; simp at h
      · rw [if_neg]
        have : (b.take m).length ≤ b.length := by simp; omega
        unfold more at hr ⊢
        omega
  · rw [if_neg hm] at h; exact absurd h hm
theorem writeE_k {r : RC} {n : Nm} {k : Int} {b : By} (h : r.writeE n k b = 0) : 0 ≤ k := by
  unfold RC.writeE at h
  by_cases hm : r.may n = 0
  · rw [if_pos hm] at h
    by_cases hk : k < 0 ∨ ((r.all n).length : Int) < k
    · rw [if_pos hk] at h; simp at h
    · omega
  · rw [if_neg hm] at h; exact absurd h hm

theorem putL_nil (c : List Int) (k : Nat) : putL c k [] = c := by simp [putL]
theorem one_empty (B : Nm → By) {p : CP} (h : p.b = []) : one B p = B := by
  funext m
  unfold one upd
  split
  · rename_i e; subst e; rw [h, putL_nil]
  · rfl
def some_ (P : List CP) : List CP := P.filter (fun p => !(p.b == []))
theorem allB_some : ∀ (P : List CP) (B : Nm → By), allB B (some_ P) = allB B P
  | [], _ => rfl
  | p :: P, B => by
    unfold some_
    by_cases h : p.b = []
    · rw [List.filter_cons_of_neg (by simp [h])]
      show allB B (some_ P) = _
      rw [allB_cons, one_empty B h, allB_some P B]
    · rw [List.filter_cons_of_pos (by simpa using h), allB_cons, allB_cons]
      exact allB_some P _
theorem all_some (rS : RC) (P : List CP) (n : Nm) : (withP rS (some_ P)).all n = allB (base rS.L) P n := by
  unfold RC.all withP
  simp only
  rw [allB_some]

/-- A write of the beginnings, or of a torn one, goes as it went. -/
theorem Wrote.again {rS r : RC} {w : List OpV} (h : Wrote rS w r) {n j : Nat} (torn : Int) (hn : n ≤ w.length) (hj : j < w.length) (hjn : j ≤ n) {m : Nat} (hm1 : j ≠ n → m = w[j].b.length) (hm2 : j = n → m = (mag torn).toNat % (w[j].b.length + 1)) :
    (withP rS (some_ ((kept (w.map OpV.cp) n torn).take j))).writeE w[j].s.data.toList w[j].k (w[j].b.take m) = 0 ∧
    (withP rS (some_ ((kept (w.map OpV.cp) n torn).take j))).write w[j].s.data.toList w[j].k (w[j].b.take m) = withP rS (some_ ((kept (w.map OpV.cp) n torn).take (j + 1))) ∧
    (withP rS (some_ ((kept (w.map OpV.cp) n torn).take j))).writeE w[j].s.data.toList w[j].k w[j].b = 0 := by
  obtain ⟨hE, hb, _⟩ := h.ok j hj
  have hl : (w.map OpV.cp).length = w.length := by simp
  have e1 : (kept (w.map OpV.cp) n torn).take j = (w.take j).map OpV.cp := by rw [kept_le (by rw [hl]; exact hn) hjn, List.map_take]
  have e2 : some_ ((w.take j).map OpV.cp) = (w.take j).map OpV.cp := by
    unfold some_
    refine List.filter_eq_self.2 (fun p hp => ?_)
    obtain ⟨o, ho, rfl⟩ := List.mem_map.1 hp
    obtain ⟨i, hi, rfl⟩ := List.getElem_of_mem ho
    have hi' : i < w.length := by rw [List.length_take] at hi; omega
    rw [List.getElem_take]
    have := (h.ok i hi').2.1
    simpa [OpV.cp] using this
  rw [e1, e2]
  have hE' := write_less hE m
  refine ⟨hE', ?_, hE⟩
  have e3 : (kept (w.map OpV.cp) n torn).take (j + 1) = (w.take j).map OpV.cp ++ [⟨w[j].s.data.toList, w[j].k.toNat, w[j].b.take m⟩] := by
    by_cases hjn' : j = n
    · have hm3 := hm2 hjn'
      clear hm1 hm2
      subst hjn'
      rw [kept_eq (P := w.map OpV.cp) (n := j) (torn := torn) (by rw [hl]; omega), e1, hm3]
      simp [OpV.cp]
    · have := kept_lt (P := w.map OpV.cp) (n := n) (i := j) (torn := torn) (by rw [hl]; exact hn) (by omega)
      rw [this, e1, hm1 hjn', List.take_length]
      simp [OpV.cp]
  rw [e3]
  unfold some_
  rw [List.filter_append]
  show _ = withP rS (some_ ((w.take j).map OpV.cp) ++ _)
  rw [e2]
  unfold RC.write
  by_cases hbm : w[j].b.take m = []
  · rw [if_neg (fun hc => hc.2 hbm), hbm]
    simp
  · rw [if_pos ⟨hE', hbm⟩]
    have hf : [(⟨w[j].s.data.toList, w[j].k.toNat, w[j].b.take m⟩ : CP)].filter (fun p => !(p.b == [])) = [⟨w[j].s.data.toList, w[j].k.toNat, w[j].b.take m⟩] := by
      rw [List.filter_cons_of_pos (by simpa using hbm)]; rfl
    rw [hf]
    rfl
theorem write_len {W : World} {sb mb N : Nat} {fs : List MF} {r : RC} (h : Prg W sb mb fs r N) {n : Nm} {k : Int} {b : By} (hE : r.writeE n k b = 0) : b.length ≤ 4194304 := by
  obtain ⟨J, left, pend, turn, _, h2⟩ := h
  unfold RC.writeE at hE
  by_cases hm : r.may n = 0
  · rw [if_pos hm] at hE
    obtain ⟨_, hh⟩ := may_up hm
    obtain ⟨f, hf⟩ := h2.has_some hh
    obtain ⟨hfm, hfn⟩ := mem_of_fileOf hf
    have h3 := h2.clen hfm
    rw [h2.con f hfm, hfn, h2.leftE] at h3
    have h4 := h2.most
    have h5 := h2.left0
    rw [h2.leftE] at h5
    by_cases hk : k < 0 ∨ ((r.all n).length : Int) < k
    · rw [if_pos hk] at hE; simp at hE
    · rw [if_neg hk] at hE
      by_cases hr : 0 < more (r.all n).length k b ∧ r.left < more (r.all n).length k b
      · rw [if_pos hr] at hE; simp at hE
      · unfold more at hr
        omega
  · rw [if_neg hm] at hE; exact absurd hE hm
theorem kept_stay {P : List CP} {n j : Nat} {torn : Int} (h : n < j) : (kept P n torn).take (j + 1) = (kept P n torn).take j := kept_gt h

/-- What is there behind the crash. -/
theorem crash_all {r : RC} (hd : r.down = false) {n : Nat} (hn : n ≤ r.P.length) {torn : Int} {m : Nm} (hm : m ∈ r.L.map CF.name) : ((r.crash (n : Int) torn).start).all m = allB (base r.L) (kept r.P n torn) m := by
  have e : (mag (n : Int)).toNat % (r.P.length + 1) = n := by
    unfold mag
    rw [if_neg (by omega), if_neg (by omega)]
    simp
    omega
  unfold RC.crash
  rw [if_neg (by simp [hd]), e]
  unfold RC.start
  simp only [if_true]
  unfold RC.all
  simp only
  rw [allB_nil]
  have e1 : fileC (r.L.map (fun f => { f with b := allB (base r.L) (kept r.P n torn) f.name })) m = (fileC r.L m).map (fun f => { f with b := allB (base r.L) (kept r.P n torn) f.name }) := by
    unfold fileC
    rw [List.find?_map]
    rfl
  have e0 : base (r.L.map (fun f => { f with b := allB (base r.L) (kept r.P n torn) f.name })) m = (match fileC (r.L.map (fun f => { f with b := allB (base r.L) (kept r.P n torn) f.name })) m with | some f => f.b | none => []) := rfl
  rw [e0, e1]
  cases hf : fileC r.L m with
  | none => exact absurd hm (fileC_none.1 hf)
  | some f =>
    have : f.name = m := by simpa using List.find?_some hf
    simp [this]
theorem crash_names {r : RC} {k torn : Int} : ((r.crash k torn).start).L.map CF.name = r.L.map CF.name := by
  unfold RC.crash
  split
  · unfold RC.start; split <;> rfl
  · unfold RC.start
    simp only [if_true, List.map_map]
    rfl
theorem crash_up {r : RC} (hd : r.down = false) {k torn : Int} : r.crashE = 0 ∧ (r.crash k torn).startE = 0 ∧ ((r.crash k torn).start).down = false := by
  have : (r.crash k torn).down = true := by unfold RC.crash; rw [if_neg (by simp [hd])]
  refine ⟨by simp [RC.crashE, hd], by simp [RC.startE, this], ?_⟩
  unfold RC.start
  rw [if_pos this]
end Go.Proofs.Ytikpckmlnhcddaa
