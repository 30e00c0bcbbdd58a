/-
  Cut of a file that there is. The conditions: a spot within the file.
-/
import Derived.Test.YtikpckmlnhcddaaGreatRfs
namespace Go.Proofs.YtikpckmlnhcddaaGreat
open Go.RowKit Go.Maps

set_option maxRecDepth 100000 in
set_option maxHeartbeats 2000000 in
theorem cut_all {W : World} {sb mb pend turn : Nat} {left : Int} {l r : List MF} {f : MF} (h : SRep W sb mb (l ++ f :: r) left pend turn true) {s : ByteArray} (hlen : s.size ≤ maxLen) (hf : fileOf (l ++ f :: r) s.data.toList = some f) (hp : f.ws.length ≤ pend) (hp' : pend ≤ 4611686018427387904) :
    Calls Tryz.prog 33 #[.pointer (some ⟨sb, 0, none⟩), .string s, .int .i64 f.c.length] W fun e w' => e = .returned (.int .i64 0) ∧ SRep w' sb mb (l ++ settled f :: r) left (pend - f.ws.length) turn true ∧ Step W w' sb mb (l ++ f :: r) (l ++ settled f :: r) := by
  obtain ⟨c0, c1, c2, c3, c4⟩ := box_cells h.box
  have HF := hide (find_any c0 c4 h.map hlen)
  unfold ptrOf at HF
  rw [hf] at HF
  simp only [Option.map_some, Option.isSome_some] at HF
  have hF := h.files f (by simp)
  obtain ⟨d0, _, _, _⟩ := hF.fcells
  obtain ⟨q, qcap, he, h1, h2⟩ := hF.con_form
  rw [he] at d0
  have HS := hide (settle_rep h hp hp')
  clear hf h hF c0 c1 c2 c3 c4
  have HE := hide he
  clear he
  go_enter Tryz.func33, Tryz.ntmps33
  go_wp2_with fail
  refine HF.out.mono ?_
  rintro _ _ ⟨rfl, rfl⟩
  go_wp2_with fail
  refine HS.out.mono ?_
  rintro _ w1 ⟨rfl, h1, h2⟩
  have e0 : w1.cell? ⟨f.fb, 0, none⟩ = some (.slice q f.c.length qcap) := by
    have := (h1.files (settled f) (by simp)).fcells.1
    rw [← HE.out]; exact this
  have H1 := hide h1
  have H2 := hide h2
  clear h1 h2 d0
  go_wp2
  go_ret
  exact ⟨rfl, H1.out, H2.out⟩

set_option maxRecDepth 100000 in
set_option maxHeartbeats 2000000 in
theorem cut_some {W : World} {sb mb pend turn : Nat} {left : Int} {l r : List MF} {f : MF} (h : SRep W sb mb (l ++ f :: r) left pend turn true) {s : ByteArray} (hlen : s.size ≤ maxLen) (hf : fileOf (l ++ f :: r) s.data.toList = some f) (hp : f.ws.length ≤ pend) (hp' : pend ≤ 4611686018427387904) (hc : f.c.length ≤ 4194304) (hl0 : 0 ≤ left) (hl1 : left ≤ 4194304)
    {n : Nat} (hn : n < f.c.length) :
    Calls Tryz.prog 33 #[.pointer (some ⟨sb, 0, none⟩), .string s, .int .i64 n] W fun e w' => e = .returned (.int .i64 0) ∧ ∃ cv, SRep w' sb mb (l ++ { settled f with c := f.c.take n, cv := cv } :: r) (left + ((f.c.length : Int) - n)) (pend - f.ws.length) turn true ∧ Step W w' sb mb (l ++ f :: r) (l ++ { settled f with c := f.c.take n, cv := cv } :: r) := by
  obtain ⟨c0, c1, c2, c3, c4⟩ := box_cells h.box
  have HF := hide (find_any c0 c4 h.map hlen)
  unfold ptrOf at HF
  rw [hf] at HF
  simp only [Option.map_some, Option.isSome_some] at HF
  have hF := h.files f (by simp)
  obtain ⟨d0, _, _, _⟩ := hF.fcells
  obtain ⟨q, qcap, he, h1, h2⟩ := hF.con_form
  rw [he] at d0
  have HS := hide (settle_rep h hp hp')
  clear hf h hF c0 c1 c2 c3 c4
  have HE := hide he
  clear he
  go_enter Tryz.func33, Tryz.ntmps33
  go_wp2_with fail
  refine HF.out.mono ?_
  rintro _ _ ⟨rfl, rfl⟩
  go_wp2_with fail
  refine HS.out.mono ?_
  rintro _ w1 ⟨rfl, h1, h2⟩
  have e0 : w1.cell? ⟨f.fb, 0, none⟩ = some (.slice q f.c.length qcap) := by
    have := (h1.files (settled f) (by simp)).fcells.1
    rw [← HE.out]; exact this
  obtain ⟨_, c1, _, _, _⟩ := box_cells h1.box
  have g1 := box_frozen h1.box 1
  have H1 := hide h1
  have H2 := hide h2
  clear h1 h2 d0
  go_wp2_with fail
  go_region
  rename World => w0
  obtain ⟨w2, hw2⟩ : ∃ w2, w2 = (w0.setCell ⟨sb, 1, none⟩ (.int .i64 (left + ((f.c.length : Int) - n)))).drew := ⟨_, rfl⟩
  rw [← hw2]
  have ho : Only (· = sb) w0 w2 := by rw [hw2]; exact (Only.set (F := (· = sb)) _ _ _ _ rfl).drew
  have h3 : SRep w2 sb mb (l ++ settled f :: r) (left + ((f.c.length : Int) - n)) (pend - f.ws.length) turn true := by rw [hw2]; exact (H1.out.setLeft _).drew
  have HT3 := hide (H2.out.trans (Step.box ho))
  have hF := h3.files (settled f) (by simp)
  have e2 : w2.cell? ⟨f.fb, 0, none⟩ = some (.slice q f.c.length qcap) := by
    have := hF.fcells.1
    rw [← HE.out]; exact this
  have g2 : w2.frozen? ⟨f.fb, 0, none⟩ = false := hF.fcells.2.2.1
  have HR : Hid (Row .u8 w2 (.slice q n qcap) (f.c.take n)) := by
    have := own_row hF.con
    rw [show (settled f).cv = .slice q f.c.length qcap from HE.out] at this
    exact hide (this.take (by omega))
  have hln : (f.c.take n).length = n := by simp; omega
  have HK := hide (clone_len HR.out (by omega) hln)
  have H3 := hide h3
  have HLN := hide hln
  clear hw2 ho h3 hF e0 c1 g1 H1 H2 hln
  go_wp2_with fail
  refine HK.out.mono ?_
  rintro _ w3 ⟨p3, cp3, rfl, o3, b3⟩
  have e3 := cell_later b3 e2
  have g3 : w3.frozen? ⟨f.fb, 0, none⟩ = false := ((H3.out.fresh b3).files (settled f) (by simp)).fcells.2.2.1
  have H4 := hide (H3.out.fresh b3)
  have O3 := hide o3
  have B3 := hide b3
  clear o3 b3 e2 g2 HK HR
  go_wp2
  go_ret
  have hFs := H4.out.files (settled f) (by simp)
  obtain ⟨r1, r2⟩ := hFs.setConNew (.slice p3 n cp3) (f.c.take n) (own_base (by rw [HLN.out]; exact O3.out) (Nat.zero_le _)) (fun x hx => hFs.u8 x (List.mem_of_mem_take hx))
  have hch : Chg w2 (w3.setCell ⟨f.fb, 0, none⟩ (.slice p3 n cp3)) (settled f) { settled f with c := f.c.take n, cv := .slice p3 n cp3 } :=
    ⟨(Only.fresh B3.out _).trans r2, r1, rfl, rfl, fun b hb => .inr (own_block_base O3.out hb), fun b hb => .inl hb, fun b hb => .inl hb, fun x hx => by simp [settled] at hx⟩
  exact ⟨rfl, _, H3.out.change hch, HT3.out.trans hch.step⟩
end Go.Proofs.YtikpckmlnhcddaaGreat

/-
  Remove and Rename of files that there are. The conditions: within the limits.
-/
namespace Go.Proofs.YtikpckmlnhcddaaGreat
open Go.RowKit Go.Maps

theorem own_tight {H : Type} {P : Program} {k : TypeId} {R : Value → Option (DataW H × List MemPlace)} {w : World} {b n : Nat} {D : DataW H} (h : w.ownsMap P k R b n D) : w.ownsMap P k R b (Maps.size D) D := by
  obtain ⟨es, clock, hb, F, hs, rfl⟩ := h
  refine ⟨es, clock, hb, F, ?_, rfl⟩
  simp [Maps.size, length_sorted]

theorem names_off {l r : List MF} {f : MF} (h : (l ++ f :: r).Pairwise Bef) : ∀ g ∈ l ++ r, g.name ≠ f.name := by
  intro g hg e
  rw [List.pairwise_append] at h
  obtain ⟨_, h2, h3⟩ := h
  have hirr : ∀ x : List UInt8, bytesBefore x x ≠ true := fun x => by rw [WideAt.bytes_irrefl]; simp
  rcases List.mem_append.1 hg with hg | hg
  · have := h3 g hg f (by simp)
    unfold Bef at this
    rw [e] at this
    exact hirr _ this
  · have := (List.pairwise_cons.1 h2).1 g hg
    unfold Bef at this
    rw [e] at this
    exact hirr _ this

theorem del_ent {l r : List MF} {f : MF} (h : (l ++ f :: r).Pairwise Bef) : (DataW.map ((l ++ f :: r).map ent)).del (.string f.name) = .map ((l ++ r).map ent) := by
  have hoff := names_off h
  have hk : ∀ g ∈ l ++ r, (ent g).1.sameKey (.string f.name) = false := fun g hg => by
    have := hoff g hg
    simp [ent, sameKey_str, this]
  show DataW.map (((l ++ f :: r).map ent).filter fun p => !p.1.sameKey (.string f.name)) = _
  have e1 : (l.map ent).filter (fun p => !p.1.sameKey (.string f.name)) = l.map ent := List.filter_eq_self.2 (fun p hp => by obtain ⟨g, hg, rfl⟩ := List.mem_map.1 hp; simp [hk g (by simp [hg])])
  have e2 : (r.map ent).filter (fun p => !p.1.sameKey (.string f.name)) = r.map ent := List.filter_eq_self.2 (fun p hp => by obtain ⟨g, hg, rfl⟩ := List.mem_map.1 hp; simp [hk g (by simp [hg])])
  have e3 : (ent f).1.sameKey (.string f.name) = true := by simp [ent, sameKey_str]
  simp [e1, e2, e3]

theorem SRep.dropped {W w' : World} {sb mb n pend turn : Nat} {left : Int} {l r : List MF} {f : MF} {up : Bool} (h : SRep W sb mb (l ++ f :: r) left pend turn up)
    (hm : w'.ownsMap Tryz.prog 9 ptrElem mb n ((DataW.map ((l ++ f :: r).map ent)).del (.string f.name))) (hgr : W.grownBy w' (some mb)) :
    SRep w' sb mb (l ++ r) left pend turn up ∧ Step W w' sb mb (l ++ f :: r) (l ++ r) := by
  have ho : Only (· = mb) W w' := Only.of_grown hgr (fun k e => by simpa using e.symm)
  have hsub : (l ++ r).Sublist (l ++ f :: r) := List.Sublist.append_left (List.sublist_cons_self _ _) _
  have hin : ∀ g ∈ l ++ r, g ∈ l ++ f :: r := fun g hg => hsub.subset hg
  rw [del_ent h.sorted] at hm
  have hm' := own_tight hm
  have hsz : Maps.size (DataW.map ((l ++ r).map ent)) = (l ++ r).length := by simp [Maps.size]
  rw [hsz] at hm'
  refine ⟨⟨ho.obj h.box h.sb_mb, hm', fun g hg => (h.files g (hin g hg)).only ho (fun i hi e => by subst e; exact h.mb_not (hin g hg) hi) (fun i hi e => by subst e; exact h.cov_own ⟨g, hin g hg, hi⟩ (.inr (.inl rfl))), h.sorted.sublist hsub, h.apart.sublist hsub, fun a ha g hg => h.sep a (hin a ha) g (hin g hg)⟩, ⟨ho.mono (fun i _ e => .inr (.inl e)), ?_, ?_⟩⟩
  · intro i hi
    rcases hi with rfl | rfl | ⟨g, hg, hi⟩
    · exact .inl (.inl rfl)
    · exact .inl (.inr (.inl rfl))
    · exact .inl (.inr (.inr ⟨g, hin g hg, hi⟩))
  · rintro i ⟨g, hg, hi⟩
    exact .inl ⟨g, hin g hg, hi⟩

theorem SRep.renamed {W w' : World} {sb mb n pend turn : Nat} {left : Int} {l r : List MF} {f : MF} {up : Bool} (h : SRep W sb mb (l ++ f :: r) left pend turn up) {t : List UInt8} (ht : ∀ g ∈ l ++ r, g.name ≠ t)
    (hm : w'.ownsMap Tryz.prog 9 ptrElem mb n (((DataW.map ((l ++ f :: r).map ent)).del (.string f.name)).put (.string t) (.lit (.int .i64 f.fb)))) (hgr : W.grownBy w' (some mb)) :
    SRep w' sb mb (insF { f with name := t } (l ++ r)) left pend turn up ∧ Step W w' sb mb (l ++ f :: r) (insF { f with name := t } (l ++ r)) := by
  have ho : Only (· = mb) W w' := Only.of_grown hgr (fun k e => by simpa using e.symm)
  have hsub : (l ++ r).Sublist (l ++ f :: r) := List.Sublist.append_left (List.sublist_cons_self _ _) _
  have hin : ∀ g ∈ l ++ r, g ∈ l ++ f :: r := fun g hg => hsub.subset hg
  rw [del_ent h.sorted] at hm
  have e := put_ent (fs := l ++ r) (x := { f with name := t }) ht
  have e' : (DataW.map ((l ++ r).map ent)).put (.string t) (.lit (.int .i64 f.fb)) = .map ((insF { f with name := t } (l ++ r)).map ent) := e
  rw [e'] at hm
  have hm' := own_tight hm
  have hsz : Maps.size (DataW.map ((insF { f with name := t } (l ++ r)).map ent)) = (insF { f with name := t } (l ++ r)).length := by simp [Maps.size]
  rw [hsz] at hm'
  have hfs : ∀ g ∈ l ++ f :: r, FRep w' g := fun g hg => (h.files g hg).only ho (fun i hi e => by subst e; exact h.mb_not hg hi) (fun i hi e => by subst e; exact h.cov_own ⟨g, hg, hi⟩ (.inr (.inl rfl)))
  have hff := hfs f (by simp)
  refine ⟨⟨ho.obj h.box h.sb_mb, hm', fun g hg => ?_, sorted_insF ht (h.sorted.sublist hsub), ?_, fun a ha g hg => ?_⟩, ⟨ho.mono (fun i _ e => .inr (.inl e)), ?_, ?_⟩⟩
  · rcases mem_insF.1 hg with rfl | hg
    · exact ⟨hff.box, hff.con, hff.pen, hff.cov, hff.u8⟩
    · exact hfs g (hin g hg)
  · refine pair_insF (fun y z hyz => ⟨fun e => hyz.1 e.symm, hyz.2.1.symm, hyz.2.2.symm⟩) (fun y hy => ?_) (h.apart.sublist hsub)
    exact h.pair (List.mem_append.1 hy)
  · rcases mem_insF.1 ha with rfl | ha <;> rcases mem_insF.1 hg with rfl | hg
    · exact h.sep f (by simp) f (by simp)
    · exact h.sep f (by simp) g (hin g hg)
    · exact h.sep a (hin a ha) f (by simp)
    · exact h.sep a (hin a ha) g (hin g hg)
  · intro i hi
    rcases hi with rfl | rfl | ⟨g, hg, hi⟩
    · exact .inl (.inl rfl)
    · exact .inl (.inr (.inl rfl))
    · rcases mem_insF.1 hg with rfl | hg
      · exact .inl (.inr (.inr ⟨f, by simp, hi⟩))
      · exact .inl (.inr (.inr ⟨g, hin g hg, hi⟩))
  · rintro i ⟨g, hg, hi⟩
    rcases mem_insF.1 hg with rfl | hg
    · exact .inl ⟨f, by simp, hi⟩
    · exact .inl ⟨g, hin g hg, hi⟩

set_option maxRecDepth 100000 in
set_option maxHeartbeats 2000000 in
theorem drop_none {W : World} {sb mb pend turn : Nat} {left : Int} {fs : List MF} {up : Bool} (h : SRep W sb mb fs left pend turn up) {s : ByteArray} (hlen : s.size ≤ maxLen) (hf : fileOf fs s.data.toList = none) :
    Calls Tryz.prog 53 #[.pointer (some ⟨sb, 0, none⟩), .string s] W fun e w' => e = .returned (.tuple #[]) ∧ w' = W := by
  obtain ⟨c0, c1, c2, c3, c4⟩ := box_cells h.box
  have hl := (map_look h.map hlen).1
  unfold ptrOf at hl
  rw [hf] at hl
  simp only [Option.map_none, Option.isSome_none] at hl
  clear h hf
  go_enter Tryz.func53, Tryz.ntmps53
  go_wp2
  go_end0
  exact ⟨rfl, rfl⟩

set_option maxRecDepth 100000 in
set_option maxHeartbeats 2000000 in
theorem drop_some {W : World} {sb mb pend turn : Nat} {left : Int} {l r : List MF} {f : MF} {up : Bool} (h : SRep W sb mb (l ++ f :: r) left pend turn up) {s : ByteArray} (hlen : s.size ≤ maxLen) (hf : fileOf (l ++ f :: r) s.data.toList = some f) (hp : f.ws.length ≤ pend) (hp' : pend ≤ 4611686018427387904) (hc : f.c.length ≤ 4194304) (hl0 : 0 ≤ left) (hl1 : left ≤ 4194304) :
    Calls Tryz.prog 53 #[.pointer (some ⟨sb, 0, none⟩), .string s] W fun e w' => e = .returned (.tuple #[]) ∧ SRep w' sb mb (l ++ r) (left + (f.c.length : Int)) (pend - f.ws.length) turn up ∧ Step W w' sb mb (l ++ f :: r) (l ++ r) := by
  obtain ⟨c0, c1, c2, c3, c4⟩ := box_cells h.box
  have hl := (map_look h.map hlen).1
  unfold ptrOf at hl
  rw [hf] at hl
  simp only [Option.map_some, Option.isSome_some] at hl
  have HS := hide (settle_rep h hp hp')
  have HN : Hid (f.name = s.data.toList) := hide (fileOf_split hf).1
  clear h hf c1 c2 c3 c4
  go_enter Tryz.func53, Tryz.ntmps53
  go_wp2_with fail
  refine HS.out.mono ?_
  rintro _ w1 ⟨rfl, h1, h2⟩
  obtain ⟨q, qcap, he, q1, q2⟩ := (h1.files (settled f) (by simp)).con_form
  have e0 : w1.cell? ⟨f.fb, 0, none⟩ = some (.slice q f.c.length qcap) := by
    have := (h1.files (settled f) (by simp)).fcells.1
    rw [he] at this; exact this
  obtain ⟨b0, b1, _, _, _⟩ := box_cells h1.box
  have g1 := box_frozen h1.box 1
  have H1 := hide h1
  have H2 := hide h2
  clear h1 h2 hl c0 he
  go_wp2_with fail
  go_region
  rename World => w0
  obtain ⟨w2, hw2⟩ : ∃ w2, w2 = (w0.setCell ⟨sb, 1, none⟩ (.int .i64 (left + (f.c.length : Int)))).drew := ⟨_, rfl⟩
  rw [← hw2]
  have ho : Only (· = sb) w0 w2 := by rw [hw2]; exact (Only.set (F := (· = sb)) _ _ _ _ rfl).drew
  have h3 : SRep w2 sb mb (l ++ settled f :: r) (left + (f.c.length : Int)) (pend - f.ws.length) turn up := by rw [hw2]; exact (H1.out.setLeft _).drew
  have HT3 := hide (H2.out.trans (Step.box ho))
  obtain ⟨k0, _, _, _, _⟩ := box_cells h3.box
  obtain ⟨w3, hrun, hm3, ht3⟩ := h3.map.drop strKey Tryz.undMap (keyStr hlen) 0
  have HM3 := hide hm3
  have HG3 := hide ht3.grown
  have H3 := hide h3
  clear hw2 ho h3 e0 b0 b1 g1 H1 H2 hm3 ht3
  go_wp2
  go_end0
  have hm := HM3.out
  rw [← show (settled f).name = s.data.toList from HN.out] at hm
  obtain ⟨r1, r2⟩ := H3.out.dropped hm HG3.out
  exact ⟨rfl, r1, HT3.out.trans r2⟩

set_option maxRecDepth 100000 in
set_option maxHeartbeats 2000000 in
theorem remove_some {W : World} {sb mb pend turn : Nat} {left : Int} {l r : List MF} {f : MF} (h : SRep W sb mb (l ++ f :: r) left pend turn true) {s : ByteArray} (hlen : s.size ≤ maxLen) (hf : fileOf (l ++ f :: r) s.data.toList = some f) (hp : f.ws.length ≤ pend) (hp' : pend ≤ 4611686018427387904) (hc : f.c.length ≤ 4194304) (hl0 : 0 ≤ left) (hl1 : left ≤ 4194304) :
    Calls Tryz.prog 14 #[.pointer (some ⟨sb, 0, none⟩), .string s] W fun e w' => e = .returned (.int .i64 0) ∧ SRep w' sb mb (l ++ r) (left + (f.c.length : Int)) (pend - f.ws.length) turn true ∧ Step W w' sb mb (l ++ f :: r) (l ++ r) := by
  obtain ⟨c0, c1, c2, c3, c4⟩ := box_cells h.box
  have HF := hide (find_any c0 c4 h.map hlen)
  unfold ptrOf at HF
  rw [hf] at HF
  simp only [Option.map_some, Option.isSome_some] at HF
  have HD := hide (drop_some h hlen hf hp hp' hc hl0 hl1)
  clear hf h c0 c1 c2 c3 c4
  go_enter Tryz.func14, Tryz.ntmps14
  go_wp2_with fail
  refine HF.out.mono ?_
  rintro _ _ ⟨rfl, rfl⟩
  go_wp2_with fail
  refine HD.out.mono ?_
  rintro _ w1 ⟨rfl, h1, h2⟩
  go_wp2
  go_ret
  exact ⟨rfl, h1, h2⟩

set_option maxRecDepth 100000 in
set_option maxHeartbeats 2000000 in
theorem rename_empty {W : World} {sb mb pend turn : Nat} {left : Int} {fs : List MF} {f : MF} (h : SRep W sb mb fs left pend turn true) {s t : ByteArray} (hlen : s.size ≤ maxLen) (hf : fileOf fs s.data.toList = some f) (ht : t.data.toList = []) :
    Calls Tryz.prog 36 #[.pointer (some ⟨sb, 0, none⟩), .string s, .string t] W fun e w' => e = .returned (.int .i64 31) ∧ w' = W := by
  obtain ⟨c0, c1, c2, c3, c4⟩ := box_cells h.box
  have HF := hide (find_any c0 c4 h.map hlen)
  unfold ptrOf at HF
  rw [hf] at HF
  simp only [Option.map_some, Option.isSome_some] at HF
  have hne : (t.toList == []) = true := by rw [ByteArray.toList_eq, ht]; rfl
  clear hf h c0 c1 c2 c3 c4 ht
  go_enter Tryz.func36, Tryz.ntmps36
  go_wp2_with fail
  refine HF.out.mono ?_
  rintro _ _ ⟨rfl, rfl⟩
  go_wp2
  go_ret
  exact ⟨rfl, rfl⟩

set_option maxRecDepth 100000 in
set_option maxHeartbeats 2000000 in
theorem rename_same {W : World} {sb mb pend turn : Nat} {left : Int} {fs : List MF} {f : MF} (h : SRep W sb mb fs left pend turn true) {s : ByteArray} (hlen : s.size ≤ maxLen) (hf : fileOf fs s.data.toList = some f) (ht : s.data.toList ≠ []) :
    Calls Tryz.prog 36 #[.pointer (some ⟨sb, 0, none⟩), .string s, .string s] W fun e w' => e = .returned (.int .i64 0) ∧ w' = W := by
  obtain ⟨c0, c1, c2, c3, c4⟩ := box_cells h.box
  have HF := hide (find_any c0 c4 h.map hlen)
  unfold ptrOf at HF
  rw [hf] at HF
  simp only [Option.map_some, Option.isSome_some] at HF
  have hne : (s.toList == []) = false := by
    have : s.toList ≠ [] := by rw [ByteArray.toList_eq]; exact ht
    simpa using this
  clear hf h c0 c1 c2 c3 c4 ht
  go_enter Tryz.func36, Tryz.ntmps36
  go_wp2_with fail
  refine HF.out.mono ?_
  rintro _ _ ⟨rfl, rfl⟩
  go_wp2
  go_ret
  exact ⟨rfl, rfl⟩
/-- Rename to a name that no file has. -/
theorem find_off {l r : List MF} {f : MF} {s t : List UInt8} (hf : fileOf (l ++ f :: r) s = some f) (ht : fileOf (l ++ f :: r) t = none) : s ≠ t := by
  rintro rfl
  rw [hf] at ht
  cases ht

set_option maxRecDepth 100000 in
set_option maxHeartbeats 4000000 in
theorem rename_tail {W : World} {sb mb pend turn : Nat} {left : Int} {l r : List MF} {f : MF} (h : SRep W sb mb (l ++ f :: r) left pend turn true) {s t : ByteArray} (hlen : s.size ≤ maxLen) (hlent : t.size ≤ maxLen) (hn : f.name = s.data.toList) (hto : ∀ g ∈ l ++ r, g.name ≠ t.data.toList) (hmx : (l ++ f :: r).length ≤ 4194304) :
    ∃ w1 w2, (Builtin.delete_ #[61, 9] 0 #[.map (some mb), .string s]).run Tryz.prog W = .ok (.tuple #[]) w1 ∧ w1.cell? ⟨sb, 0, none⟩ = some (.map (some mb)) ∧
      (Instr.mapUpdate 61 (.map (some mb)) (.string t) (.pointer (some ⟨f.fb, 0, none⟩))).run Tryz.prog w1 = .ok () w2 ∧ SRep w2 sb mb (insF { f with name := t.data.toList } (l ++ r)) left pend turn true ∧ Step W w2 sb mb (l ++ f :: r) (insF { f with name := t.data.toList } (l ++ r)) := by
  obtain ⟨w1, hrun, hm1, ht1⟩ := h.map.drop strKey Tryz.undMap (keyStr hlen) 0
  obtain ⟨w2, hst, hm2, hg2⟩ := hm1.update strKey Tryz.undMap (by unfold maxLen; omega) (keyStr hlent) (ptrElem_mk f.fb)
  have ho : Only (· = mb) W w1 := Only.of_grown ht1.grown (fun k e => by simpa using e.symm)
  have hgg : W.grownBy w2 (some mb) := ht1.grown.trans hg2
  rw [← hn] at hm2
  obtain ⟨r1, r2⟩ := h.renamed hto hm2 hgg
  exact ⟨w1, w2, hrun, (box_cells (ho.obj h.box h.sb_mb)).1, hst, r1, r2⟩

set_option maxRecDepth 100000 in
set_option maxHeartbeats 4000000 in
theorem rename_some {W : World} {sb mb pend turn : Nat} {left : Int} {fs : List MF} {f : MF} (h : SRep W sb mb fs left pend turn true) {s t : ByteArray} (hlen : s.size ≤ maxLen) (hf : fileOf fs s.data.toList = some f) (ht : t.data.toList ≠ []) (hst : s.data.toList ≠ t.data.toList)
    {P : World → Prop} (hd : Calls Tryz.prog 53 #[.pointer (some ⟨sb, 0, none⟩), .string t] W fun e w1 => e = .returned (.tuple #[]) ∧ w1.cell? ⟨sb, 0, none⟩ = some (.map (some mb)) ∧
      ∃ w2 w3, (Builtin.delete_ #[61, 9] 0 #[.map (some mb), .string s]).run Tryz.prog w1 = .ok (.tuple #[]) w2 ∧ w2.cell? ⟨sb, 0, none⟩ = some (.map (some mb)) ∧ (Instr.mapUpdate 61 (.map (some mb)) (.string t) (.pointer (some ⟨f.fb, 0, none⟩))).run Tryz.prog w2 = .ok () w3 ∧ P w3) :
    Calls Tryz.prog 36 #[.pointer (some ⟨sb, 0, none⟩), .string s, .string t] W fun e w' => e = .returned (.int .i64 0) ∧ P w' := by
  obtain ⟨c0, c1, c2, c3, c4⟩ := box_cells h.box
  have HF := hide (find_any c0 c4 h.map hlen)
  unfold ptrOf at HF
  rw [hf] at HF
  simp only [Option.map_some, Option.isSome_some] at HF
  have hne : (t.toList == []) = false := by
    have : t.toList ≠ [] := by rw [ByteArray.toList_eq]; exact ht
    simpa using this
  have hne2 : (t.toList == s.toList) = false := by
    have : t.toList ≠ s.toList := by rw [ByteArray.toList_eq, ByteArray.toList_eq]; exact fun e => hst e.symm
    simpa using this
  have HD := hide hd
  clear hf h c0 c1 c2 c3 c4 ht hd hst
  go_enter Tryz.func36, Tryz.ntmps36
  go_wp2_with fail
  refine HF.out.mono ?_
  rintro _ _ ⟨rfl, rfl⟩
  go_wp2_with fail
  refine HD.out.mono ?_
  rintro _ w1 ⟨rfl, k1, w2, w3, hr1, k2, hr2, hP⟩
  have HP := hide hP
  clear hP
  go_wp2
  go_ret
  exact ⟨rfl, HP.out⟩
end Go.Proofs.YtikpckmlnhcddaaGreat

/-
  Remove and Rename, said over the list of files. The conditions: within the limits.
-/
namespace Go.Proofs.YtikpckmlnhcddaaGreat
open Go.RowKit Go.Maps

def dropF (fs : List MF) (n : List UInt8) : List MF := fs.filter (fun g => !(g.name == n))
def goneC (fs : List MF) (n : List UInt8) : Nat := match fileOf fs n with | some g => g.c.length | none => 0
def goneW (fs : List MF) (n : List UInt8) : Nat := match fileOf fs n with | some g => g.ws.length | none => 0

theorem dropF_off {fs : List MF} {n : List UInt8} (h : ∀ g ∈ fs, g.name ≠ n) : dropF fs n = fs := List.filter_eq_self.2 (fun g hg => by simp [h g hg])
theorem dropF_split {l r : List MF} {f : MF} (h : (l ++ f :: r).Pairwise Bef) : dropF (l ++ f :: r) f.name = l ++ r := by
  have ho := names_off h
  have e1 := dropF_off (fs := l) (n := f.name) (fun g hg => ho g (by simp [hg]))
  have e2 := dropF_off (fs := r) (n := f.name) (fun g hg => ho g (by simp [hg]))
  unfold dropF at e1 e2 ⊢
  rw [List.filter_append, e1, List.filter_cons_of_neg (by simp), e2]

set_option maxHeartbeats 1000000 in
theorem remove_any {W : World} {sb mb pend turn : Nat} {left : Int} {fs : List MF} {f : MF} (h : SRep W sb mb fs left pend turn true) {s : ByteArray} (hlen : s.size ≤ maxLen) (hf : fileOf fs s.data.toList = some f) (hp : ∀ g ∈ fs, g.ws.length ≤ pend) (hp' : pend ≤ 4611686018427387904) (hc : ∀ g ∈ fs, g.c.length ≤ 4194304) (hl0 : 0 ≤ left) (hl1 : left ≤ 4194304) :
    Calls Tryz.prog 14 #[.pointer (some ⟨sb, 0, none⟩), .string s] W fun e w' => e = .returned (.int .i64 0) ∧ SRep w' sb mb (dropF fs s.data.toList) (left + (f.c.length : Int)) (pend - f.ws.length) turn true ∧ Step W w' sb mb fs (dropF fs s.data.toList) := by
  obtain ⟨hn, l, r, rfl⟩ := fileOf_split hf
  rw [← hn, dropF_split h.sorted]
  exact remove_some h hlen hf (hp f (by simp)) hp' (hc f (by simp)) hl0 hl1

set_option maxHeartbeats 1000000 in
theorem rename_any {W : World} {sb mb pend turn : Nat} {left : Int} {fs : List MF} {f : MF} (h : SRep W sb mb fs left pend turn true) {s t : ByteArray} (hlen : s.size ≤ maxLen) (hlent : t.size ≤ maxLen) (hf : fileOf fs s.data.toList = some f) (ht : t.data.toList ≠ []) (hst : s.data.toList ≠ t.data.toList)
    (hp : ∀ g ∈ fs, g.ws.length ≤ pend) (hp' : pend ≤ 4611686018427387904) (hc : ∀ g ∈ fs, g.c.length ≤ 4194304) (hl0 : 0 ≤ left) (hl1 : left ≤ 4194304) (hmx : fs.length ≤ 4194304) :
    Calls Tryz.prog 36 #[.pointer (some ⟨sb, 0, none⟩), .string s, .string t] W fun e w' => e = .returned (.int .i64 0) ∧ SRep w' sb mb (insF { f with name := t.data.toList } (dropF (dropF fs t.data.toList) s.data.toList)) (left + (goneC fs t.data.toList : Nat)) (pend - goneW fs t.data.toList) turn true ∧ Step W w' sb mb fs (insF { f with name := t.data.toList } (dropF (dropF fs t.data.toList) s.data.toList)) := by
  refine rename_some (P := fun w' => SRep w' sb mb (insF { f with name := t.data.toList } (dropF (dropF fs t.data.toList) s.data.toList)) (left + (goneC fs t.data.toList : Nat)) (pend - goneW fs t.data.toList) turn true ∧ Step W w' sb mb fs (insF { f with name := t.data.toList } (dropF (dropF fs t.data.toList) s.data.toList))) h hlen hf ht hst ?_
  have hn := (fileOf_split hf).1
  cases hq : fileOf fs t.data.toList with
  | none =>
    have e0 := dropF_off (fileOf_none hq)
    have e1 : goneC fs t.data.toList = 0 := by simp [goneC, hq]
    have e2 : goneW fs t.data.toList = 0 := by simp [goneW, hq]
    rw [e0, e1, e2]
    refine (drop_none h hlent hq).mono ?_
    rintro _ _ ⟨rfl, rfl⟩
    refine ⟨rfl, (box_cells h.box).1, ?_⟩
    obtain ⟨_, l, r, rfl⟩ := fileOf_split hf
    obtain ⟨w1, w2, r1, r2, r3, r4, r5⟩ := rename_tail h hlen hlent hn (fun g hg => fileOf_none hq g (by simp at hg ⊢; rcases hg with hg | hg <;> simp [hg])) hmx
    rw [← hn, dropF_split h.sorted]
    refine ⟨w1, w2, r1, r2, r3, ?_, r5⟩
    simpa using r4
  | some g =>
    have e1 : goneC fs t.data.toList = g.c.length := by simp [goneC, hq]
    have e2 : goneW fs t.data.toList = g.ws.length := by simp [goneW, hq]
    rw [e1, e2]
    have hng := (fileOf_split hq).1
    obtain ⟨_, l, r, rfl⟩ := fileOf_split hq
    refine (drop_some h hlent hq (hp g (by simp)) hp' (hc g (by simp)) hl0 hl1).mono ?_
    rintro _ w1 ⟨rfl, h1, h2⟩
    refine ⟨rfl, (box_cells h1.box).1, ?_⟩
    have hfm : f ∈ l ++ r := by
      have := List.mem_of_find?_eq_some hf
      have hfg : f ≠ g := by rintro rfl; exact hst (hn.symm.trans hng)
      simp [hfg] at this
      simpa using this
    have hoff := names_off h.sorted
    rw [← hng, dropF_split h.sorted, hng]
    obtain ⟨l', r', hlr⟩ := List.append_of_mem hfm
    rw [hlr] at h1 h2 hoff ⊢
    have hmx' : (l' ++ f :: r').length ≤ 4194304 := by
      rw [← hlr]
      simp at hmx ⊢
      omega
    obtain ⟨w2, w3, r1, r2, r3, r4, r5⟩ := rename_tail h1 hlen hlent hn (fun x hx => by
      rw [← hng]
      exact hoff x (by simp at hx ⊢; rcases hx with hx | hx <;> simp [hx])) hmx'
    refine ⟨w2, w3, r1, r2, r3, ?_⟩
    rw [← hn, dropF_split h1.sorted]
    exact ⟨r4, h2.trans r5⟩
end Go.Proofs.YtikpckmlnhcddaaGreat
