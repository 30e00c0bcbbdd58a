/-
  The reference's calls, each with its answer and what it is behind it. The conditions: the store is as one that is held against the program's.
-/
import Derived.Test.YtikpckmlnhcddaaGreatRcs
import Derived.Test.YtikpckmlnhcddaaGreatPgm
namespace Go.Proofs.YtikpckmlnhcddaaGreat
open Go.RowKit Go.Maps

structure Good (R : RS) : Prop where
  ok : RefOk R
  sole : Sole R
  link : ∀ p ∈ R.core.P, p.name ∈ R.core.L.map CF.name
  u8 : ∀ n, U8 (R.core.all n)
theorem InvJ.good {J : List (PL × CP)} {fs : List MF} {left : Int} {pend turn N : Nat} {R : RS} (h : InvJ J fs left pend turn R.core N) (hN : R.core.P.length ≤ 2199023255552) : Good R := by
  refine ⟨h.refOk hN, h.sole, fun p hp => ?_, fun n => h.u8 n⟩
  rw [h.P] at hp
  obtain ⟨j, hj, rfl⟩ := List.mem_map.1 hp
  obtain ⟨f, hf, _, e⟩ := h.link j hj
  rw [h.names, ← e]
  exact List.mem_map.2 ⟨f, hf, rfl⟩
theorem Prg.good {W : World} {sb mb N : Nat} {fs : List MF} {R : RS} (h : Prg W sb mb fs R.core N) (hN : R.core.P.length ≤ 2199023255552) : Good R := by
  obtain ⟨J, left, pend, turn, _, h2⟩ := h
  exact h2.good hN

def RPost (W : World) (rb : Nat) (R : RS) (E : Int) (r' : RC) (e : Ending) (w' : World) : Prop := e = .returned (.int .i64 E) ∧ ∃ R', RRep w' rb R' ∧ RStep W w' rb R R' ∧ R'.core = r'
theorem RPost.same {W w' : World} {rb : Nat} {R : RS} {E : Int} {e : Ending} (h : RRep W rb R) (he : e = .returned (.int .i64 E)) (hb : Below W.heap.size W w') : RPost W rb R E R.core e w' := ⟨he, R, h.fresh hb, RStep.fresh hb, rfl⟩

theorem qcreate {W : World} {rb : Nat} {R : RS} (h : RRep W rb R) (g : Good R) {s : ByteArray} :
    Calls Tryz.prog 31 #[.pointer (some ⟨rb, 0, none⟩), .string s] W (RPost W rb R (R.core.createE s.data.toList) (R.core.create s.data.toList)) := by
  by_cases hE : R.core.createE s.data.toList = 0
  · refine (rcreate_ok h g.ok.L hE).mono ?_
    rintro e w' ⟨rfl, h1⟩
    unfold RC.create
    rw [if_pos hE]
    exact ⟨by rw [hE], h1⟩
  · refine (rcreate_no h g.ok.L hE).mono ?_
    rintro e w' ⟨rfl, rfl⟩
    unfold RC.create
    rw [if_neg hE]
    exact RPost.same h rfl (Below.refl _ _)
theorem sizes_mem {R : RS} (hs : Sole R) {n : Nm} {j : Nat} (hj : atL R.L n = some j) : (R.core.all n).length ≤ R.core.sizes := by
  obtain ⟨hk, hn⟩ := atL_get hj
  rw [← sizesE hs]
  have h1 := sizesTo_le (R := R) (show j + 1 ≤ R.L.length from hk)
  have h2 : sizesTo R (j + 1) = sizesTo R j + (allTo R.P (R.L[j]!).name (R.L[j]!).b R.P.length).length := rfl
  rw [hs.allE hk, hn] at h2
  omega
theorem ne_beq {E : Int} (h : E ≠ 0) : (E == 0) = false := by simpa using h
theorem qwrite {W : World} {rb : Nat} {R : RS} (h : RRep W rb R) (g : Good R) (hP : R.P.length < 2199023255552) {s : ByteArray} {k : Int} {v : Value} {b : By} (hb : Row .u8 W v b) (hu : U8 b) :
    Calls Tryz.prog 32 #[.pointer (some ⟨rb, 0, none⟩), .string s, .int .i64 k, v] W (RPost W rb R (R.core.writeE s.data.toList k b) (R.core.write s.data.toList k b)) := by
  by_cases hm : R.core.may s.data.toList = 0
  · by_cases hk : k < 0 ∨ ((R.core.all s.data.toList).length : Int) < k
    · have hE : R.core.writeE s.data.toList k b = 33 := by unfold RC.writeE; rw [if_pos hm, if_pos hk]
      refine (rwrite_spot h g.ok g.sole hm hk v).mono ?_
      rintro e w' ⟨rfl, hb⟩
      unfold RC.write
      rw [hE, if_neg (by simp)]
      exact RPost.same h rfl hb
    · obtain ⟨kn, rfl⟩ : ∃ kn : Nat, k = (kn : Int) := ⟨k.toNat, by omega⟩
      obtain ⟨_, j, hj⟩ := may_zero hm
      have hal := all_len g.ok g.sole hj
      obtain ⟨l0, l1⟩ := left_bounds g.ok g.sole
      obtain ⟨p, cap, rfl, hb1, hb2, hb3, hb4⟩ := id hb
      by_cases hr : R.core.left < (b.length : Int) - (((R.core.all s.data.toList).length : Int) - kn)
      · have hE : R.core.writeE s.data.toList (kn : Int) b = 30 := by
          unfold RC.writeE
          rw [if_pos hm, if_neg hk, if_pos]
          unfold more
          omega
        refine (rwrite_room h g.ok g.sole hm rfl (by omega) (by omega) hr).mono ?_
        rintro e w' ⟨rfl, hb⟩
        unfold RC.write
        rw [hE, if_neg (by simp)]
        exact RPost.same h rfl hb
      · have hE : R.core.writeE s.data.toList (kn : Int) b = 0 := by
          unfold RC.writeE
          rw [if_pos hm, if_neg hk, if_neg]
          unfold more
          omega
        by_cases hbe : b = []
        · subst hbe
          refine (rwrite_empty h g.ok g.sole hm (by omega)).mono ?_
          rintro e w' ⟨rfl, hb⟩
          unfold RC.write
          rw [hE, if_neg (by simp)]
          exact RPost.same h rfl hb
        · have hbm : b.length ≤ 4194304 := by
            have hle := sizes_mem g.sole hj
            have hmo := g.ok.most
            unfold RC.left at hr
            have : R.core.most = R.most := rfl
            omega
          refine (rwrite_some h g.ok g.sole hm (by omega) hb hu hbe hbm hP (by omega)).mono ?_
          rintro e w' ⟨rfl, h1⟩
          unfold RC.write
          rw [if_pos ⟨hE, hbe⟩, hE]
          exact ⟨rfl, h1⟩
  · have hE : R.core.writeE s.data.toList k b = R.core.may s.data.toList := by unfold RC.writeE; rw [if_neg hm]
    refine (rwrite_may h k v rfl (ne_beq hm)).mono ?_
    rintro e w' ⟨rfl, rfl⟩
    unfold RC.write
    rw [hE, if_neg (fun hc => hm hc.1)]
    exact RPost.same h rfl (Below.refl _ _)
theorem qsync {W : World} {rb : Nat} {R : RS} (h : RRep W rb R) (g : Good R) {s : ByteArray} :
    Calls Tryz.prog 35 #[.pointer (some ⟨rb, 0, none⟩), .string s] W (RPost W rb R (R.core.may s.data.toList) (R.core.sync s.data.toList)) := by
  by_cases hm : R.core.may s.data.toList = 0
  · refine (rsync_ok h g.ok g.sole (g.u8 _) hm).mono ?_
    rintro e w' ⟨rfl, h1⟩
    unfold RC.sync
    rw [if_pos hm, hm]
    exact ⟨rfl, h1⟩
  · refine (rsync_may h rfl (ne_beq hm)).mono ?_
    rintro e w' ⟨rfl, rfl⟩
    unfold RC.sync
    rw [if_neg hm]
    exact RPost.same h rfl (Below.refl _ _)
theorem qcut {W : World} {rb : Nat} {R : RS} (h : RRep W rb R) (g : Good R) {s : ByteArray} {k : Int} :
    Calls Tryz.prog 34 #[.pointer (some ⟨rb, 0, none⟩), .string s, .int .i64 k] W (RPost W rb R (R.core.cutE s.data.toList k) (R.core.cut s.data.toList k)) := by
  by_cases hm : R.core.may s.data.toList = 0
  · by_cases hk : k < 0 ∨ ((R.core.all s.data.toList).length : Int) < k
    · have hE : R.core.cutE s.data.toList k = 33 := by unfold RC.cutE; rw [if_pos hm, if_pos hk]
      refine (rcut_spot h g.ok g.sole hm hk).mono ?_
      rintro e w' ⟨rfl, hb⟩
      unfold RC.cut
      rw [hE, if_neg (by simp)]
      exact RPost.same h rfl hb
    · have hE : R.core.cutE s.data.toList k = 0 := by unfold RC.cutE; rw [if_pos hm, if_neg hk]
      obtain ⟨kn, rfl⟩ : ∃ kn : Nat, k = (kn : Int) := ⟨k.toNat, by omega⟩
      refine (rcut_ok h g.ok g.sole (g.u8 _) hm (by omega)).mono ?_
      rintro e w' ⟨rfl, h1⟩
      unfold RC.cut
      rw [if_pos hE, hE]
      exact ⟨rfl, h1⟩
  · have hE : R.core.cutE s.data.toList k = R.core.may s.data.toList := by unfold RC.cutE; rw [if_neg hm]
    refine (rcut_may h k rfl (ne_beq hm)).mono ?_
    rintro e w' ⟨rfl, rfl⟩
    unfold RC.cut
    rw [hE, if_neg hm]
    exact RPost.same h rfl (Below.refl _ _)
theorem qremove {W : World} {rb : Nat} {R : RS} (h : RRep W rb R) (g : Good R) {s : ByteArray} :
    Calls Tryz.prog 38 #[.pointer (some ⟨rb, 0, none⟩), .string s] W (RPost W rb R (R.core.may s.data.toList) (R.core.remove s.data.toList)) := by
  by_cases hm : R.core.may s.data.toList = 0
  · refine (rremove_ok h g.ok g.sole hm).mono ?_
    rintro e w' ⟨rfl, h1⟩
    unfold RC.remove
    rw [if_pos hm, hm]
    exact ⟨rfl, h1⟩
  · refine (rremove_may h rfl (ne_beq hm)).mono ?_
    rintro e w' ⟨rfl, rfl⟩
    unfold RC.remove
    rw [if_neg hm]
    exact RPost.same h rfl (Below.refl _ _)
theorem qrename {W : World} {rb : Nat} {R : RS} (h : RRep W rb R) (g : Good R) {s t : ByteArray} :
    Calls Tryz.prog 37 #[.pointer (some ⟨rb, 0, none⟩), .string s, .string t] W (RPost W rb R (R.core.renameE s.data.toList t.data.toList) (R.core.rename s.data.toList t.data.toList)) := by
  by_cases hm : R.core.may s.data.toList = 0
  · by_cases ht : t.data.toList = []
    · have hE : R.core.renameE s.data.toList t.data.toList = 31 := by unfold RC.renameE; rw [if_pos hm, if_pos ht]
      refine (rrename_empty h hm ht).mono ?_
      rintro e w' ⟨rfl, rfl⟩
      unfold RC.rename
      rw [hE, if_neg (by simp)]
      exact RPost.same h rfl (Below.refl _ _)
    · have hE : R.core.renameE s.data.toList t.data.toList = 0 := by unfold RC.renameE; rw [if_pos hm, if_neg ht]
      by_cases hst : t.data.toList = s.data.toList
      · refine (rrename_same h hm ht hst).mono ?_
        rintro e w' ⟨rfl, rfl⟩
        unfold RC.rename
        rw [hE, if_neg (fun hc => hc.2 hst)]
        exact RPost.same h rfl (Below.refl _ _)
      · refine (rrename_ok h g.ok g.sole hm ht hst g.link).mono ?_
        rintro e w' ⟨rfl, h1⟩
        unfold RC.rename
        rw [if_pos ⟨hE, hst⟩, hE]
        exact ⟨rfl, h1⟩
  · have hE : R.core.renameE s.data.toList t.data.toList = R.core.may s.data.toList := by unfold RC.renameE; rw [if_neg hm]
    refine (rrename_may h t rfl (ne_beq hm)).mono ?_
    rintro e w' ⟨rfl, rfl⟩
    unfold RC.rename
    rw [hE, if_neg (fun hc => hm hc.1)]
    exact RPost.same h rfl (Below.refl _ _)
theorem qcrash {W : World} {rb : Nat} {R : RS} (h : RRep W rb R) (g : Good R) {keep torn : Int} (hk0 : -9223372036854775808 ≤ keep) (hk1 : keep ≤ 9223372036854775807) (ht0 : -9223372036854775808 ≤ torn) (ht1 : torn ≤ 9223372036854775807) :
    Calls Tryz.prog 39 #[.pointer (some ⟨rb, 0, none⟩), .int .i64 keep, .int .i64 torn] W (RPost W rb R R.core.crashE (R.core.crash keep torn)) := by
  cases hd : R.down with
  | true =>
    refine (rcrash_down h hd keep torn).mono ?_
    rintro e w' ⟨rfl, rfl⟩
    unfold RC.crash RC.crashE
    rw [R.core_down, hd, if_pos rfl, if_pos rfl]
    exact RPost.same h rfl (Below.refl _ _)
  | false =>
    refine (rcrash_ok h g.ok g.sole hd g.link hk0 hk1 ht0 ht1).mono ?_
    rintro e w' ⟨rfl, h1⟩
    unfold RC.crashE
    rw [R.core_down, hd]
    exact ⟨rfl, h1⟩
theorem qstart {W : World} {rb : Nat} {R : RS} (h : RRep W rb R) :
    Calls Tryz.prog 40 #[.pointer (some ⟨rb, 0, none⟩)] W (RPost W rb R R.core.startE R.core.start) := by
  cases hd : R.down with
  | true =>
    refine (rstart_down h hd).mono ?_
    rintro e w' ⟨rfl, rfl⟩
    unfold RC.startE RC.start
    rw [R.core_down, hd, if_pos rfl, if_pos rfl]
    have ho : Only (· = rb) W (W.setCell ⟨rb, 3, none⟩ (.bool false)) := Only.set _ _ _ _ rfl
    refine ⟨rfl, { R with down := false }, ⟨by rw [heap_set_same h.box]; rfl, ownsRow_only h.lrow ho (fun b hb e => by subst e; exact h.l_rb hb), ownsRow_only h.prow ho (fun b hb e => by subst e; exact h.p_rb hb), fun f hf => ⟨(h.lb f hf).1.only0 ho (fun hl b hb e => by subst e; exact h.sep _ (.inl ⟨f, hf, hl, hb⟩) (.inl rfl)), (h.lb f hf).2⟩, fun f hf => ⟨(h.pb f hf).1.only0 ho (fun hl b hb e => by subst e; exact h.sep _ (.inr ⟨f, hf, hl, hb⟩) (.inl rfl)), (h.pb f hf).2⟩, h.sep⟩, ⟨Only.set _ _ _ _ (.inl rfl), fun i hi => .inl hi, fun i hi => .inl hi⟩, rfl⟩
  | false =>
    refine (rstart_up h hd).mono ?_
    rintro e w' ⟨rfl, rfl⟩
    unfold RC.startE RC.start
    rw [R.core_down, hd]
    exact RPost.same h rfl (Below.refl _ _)
end Go.Proofs.YtikpckmlnhcddaaGreat
