/-
  A cell of the store's own or of a file's is written; settle and Sync. The conditions: the store lies as stores do.
-/
import Derived.Test.YtikpckmlnhcddaaGreatGtr
namespace Go.Proofs.YtikpckmlnhcddaaGreat
open Go.RowKit Go.Maps

theorem heap_set_same {W : World} {b : Nat} {cs : Array Value} {t : TypeId} (h : W.heap[b]? = some (.cells cs t (0, 0))) (o : Nat) (v : Value) : (W.setCell ⟨b, o, none⟩ v).heap[b]? = some (.cells (cs.setIfInBounds o v) t (0, 0)) := by
  simp only [World.setCell]
  rw [Array.getElem?_modify, if_pos rfl, h]
  rfl

theorem SRep.setBox {W W' : World} {sb mb pend turn pend' turn' : Nat} {left left' : Int} {fs : List MF} {up up' : Bool} (h : SRep W sb mb fs left pend turn up) (ho : Only (· = sb) W W')
    (hb : W'.heap[sb]? = some (.cells #[.map (some mb), .int .i64 left', .int .i64 pend', .int .i64 turn', .bool up'] 63 (0, 0))) : SRep W' sb mb fs left' pend' turn' up' :=
  ⟨hb, ownsMap_only h.map ho (fun e => h.sb_mb e.symm), fun f hf => (h.files f hf).only ho (fun i hi e => by subst e; exact h.sb_not hf hi) (fun i hi e => by subst e; exact h.cov_own ⟨f, hf, hi⟩ (.inl rfl)), h.sorted, h.apart, h.sep⟩

theorem SRep.setLeft {W : World} {sb mb pend turn : Nat} {left : Int} {fs : List MF} {up : Bool} (h : SRep W sb mb fs left pend turn up) (x : Int) : SRep (W.setCell ⟨sb, 1, none⟩ (.int .i64 x)) sb mb fs x pend turn up :=
  h.setBox (Only.set _ _ _ _ rfl) (by rw [heap_set_same h.box]; rfl)
theorem SRep.setPend {W : World} {sb mb pend turn : Nat} {left : Int} {fs : List MF} {up : Bool} (h : SRep W sb mb fs left pend turn up) (x : Nat) : SRep (W.setCell ⟨sb, 2, none⟩ (.int .i64 x)) sb mb fs left x turn up :=
  h.setBox (Only.set _ _ _ _ rfl) (by rw [heap_set_same h.box]; rfl)
theorem SRep.setTurn {W : World} {sb mb pend turn : Nat} {left : Int} {fs : List MF} {up : Bool} (h : SRep W sb mb fs left pend turn up) (x : Nat) : SRep (W.setCell ⟨sb, 3, none⟩ (.int .i64 x)) sb mb fs left pend x up :=
  h.setBox (Only.set _ _ _ _ rfl) (by rw [heap_set_same h.box]; rfl)
theorem SRep.setUp {W : World} {sb mb pend turn : Nat} {left : Int} {fs : List MF} {up : Bool} (h : SRep W sb mb fs left pend turn up) (x : Bool) : SRep (W.setCell ⟨sb, 4, none⟩ (.bool x)) sb mb fs left pend turn x :=
  h.setBox (Only.set _ _ _ _ rfl) (by rw [heap_set_same h.box]; rfl)

theorem FRep.fcells {W : World} {f : MF} (h : FRep W f) : W.cell? ⟨f.fb, 0, none⟩ = some f.cv ∧ W.cell? ⟨f.fb, 1, none⟩ = some f.pv ∧ W.frozen? ⟨f.fb, 0, none⟩ = false ∧ W.frozen? ⟨f.fb, 1, none⟩ = false :=
  ⟨by simp [World.cell?, h.box], by simp [World.cell?, h.box], by simp [World.frozen?, h.box], by simp [World.frozen?, h.box]⟩
theorem FRep.con_form {W : World} {f : MF} (h : FRep W f) : ∃ p cap, f.cv = .slice p f.c.length cap ∧ f.c.length ≤ cap ∧ cap ≤ 9223372036854775807 := by
  obtain ⟨p, cap, he, h1, h2, _⟩ := own_row h.con
  exact ⟨p, cap, he, h1, h2⟩
theorem own_form {W : World} {base n k : Nat} {e : TypeId} {v : Value} {xs : List Value} (h : W.ownsRow base e k v n xs) : ∃ p cap, v = .slice p n cap ∧ n ≤ cap ∧ cap ≤ 9223372036854775807 := by
  rcases h.2 with ⟨rfl, rfl⟩ | ⟨g, cap, cur, rfl, _, _, h1, h2, _⟩
  · exact ⟨none, 0, rfl, Nat.le_refl _, by decide⟩
  · exact ⟨_, cap, rfl, h1, by unfold maxLen at h2; omega⟩

theorem FRep.not_uint8 {W : World} {f : MF} (h : FRep W f) : f.cv.ownBlock ≠ some f.fb := fun e => by
  obtain ⟨_, cur, hc⟩ := own_block_lt h.con e
  rw [h.box] at hc; simp at hc
theorem FRep.not_write {W : World} {f : MF} (h : FRep W f) : f.pv.ownBlock ≠ some f.fb := fun e => by
  obtain ⟨_, cur, hc⟩ := own_block_lt h.pen e
  rw [h.box] at hc; simp at hc
theorem FRep.cov_fb {W : World} {f : MF} (h : FRep W f) : ¬ covF f f.fb := fun e => by
  obtain ⟨cur, hc⟩ := h.cov_kind e
  rw [h.box] at hc; simp at hc

/-- A file's content is made another slice. -/
theorem FRep.setCon {W : World} {f : MF} (h : FRep W f) (v : Value) (c : List Int) (hv : W.ownsRow 0 5 1 v c.length (c.map (Value.int .u8))) (hu : U8 c) (hl : ∀ b, v.ownBlock = some b → f.cv.ownBlock = some b) (hs : ∀ x ∈ f.ws, Apart f.cv x.cov) :
    Chg W (W.setCell ⟨f.fb, 0, none⟩ v) f { f with c := c, cv := v } := by
  have ho : Only (· = f.fb) W (W.setCell ⟨f.fb, 0, none⟩ v) := Only.set _ _ _ _ rfl
  refine ⟨ho.mono (fun i _ e => .inl e), ⟨by rw [heap_set_same h.box]; rfl, ownsRow_only hv ho (fun b hb e => ?_), ownsRow_only h.pen ho (fun b hb e => ?_), fun x hx => ⟨ownsRow_only (h.cov x hx).1 ho (fun b hb e => ?_), (h.cov x hx).2⟩, hu⟩, rfl, rfl, fun b hb => .inl (hl b hb), fun b hb => .inl hb, fun b hb => .inl hb, fun x hx b hb => hs x hx b (hl b hb)⟩
  · subst e; exact h.not_uint8 (hl _ hb)
  · subst e; exact h.not_write hb
  · subst e; exact h.cov_fb ⟨x, hx, hb⟩

/-- A file's content is made another slice, of new memory. -/
theorem FRep.setConNew {W : World} {f : MF} (h : FRep W f) (v : Value) (c : List Int) (hv : W.ownsRow 0 5 1 v c.length (c.map (Value.int .u8))) (hu : U8 c) :
    FRep (W.setCell ⟨f.fb, 0, none⟩ v) { f with c := c, cv := v } ∧ Only (ownF f) W (W.setCell ⟨f.fb, 0, none⟩ v) := by
  have ho : Only (· = f.fb) W (W.setCell ⟨f.fb, 0, none⟩ v) := Only.set _ _ _ _ rfl
  refine ⟨⟨by rw [heap_set_same h.box]; rfl, ownsRow_only hv ho (fun b hb e => ?_), ownsRow_only h.pen ho (fun b hb e => ?_), fun x hx => ⟨ownsRow_only (h.cov x hx).1 ho (fun b hb e => ?_), (h.cov x hx).2⟩, hu⟩, ho.mono (fun i _ e => .inl e)⟩
  · subst e
    obtain ⟨_, cur, hc⟩ := own_block_lt hv hb
    rw [h.box] at hc; simp at hc
  · subst e; exact h.not_write hb
  · subst e; exact h.cov_fb ⟨x, hx, hb⟩

/-- A file's pending writes are gone. -/
theorem FRep.setPen {W : World} {f : MF} (h : FRep W f) : Chg W (W.setCell ⟨f.fb, 1, none⟩ (.slice none 0 0)) f { f with ws := [], pv := .slice none 0 0 } := by
  have ho : Only (· = f.fb) W (W.setCell ⟨f.fb, 1, none⟩ (.slice none 0 0)) := Only.set _ _ _ _ rfl
  refine ⟨ho.mono (fun i _ e => .inl e), ⟨by rw [heap_set_same h.box]; rfl, ownsRow_only h.con ho (fun b hb e => ?_), World.ownsRow_nil _ _ _ _, by simp, h.u8⟩, rfl, rfl, fun b hb => .inl hb, fun b hb => by simp [Value.ownBlock] at hb, fun b hb => by obtain ⟨x, hx, _⟩ := hb; simp at hx, by simp⟩
  subst e; exact h.not_uint8 hb

set_option maxRecDepth 100000 in
set_option maxHeartbeats 1000000 in
theorem settle_any {W : World} {sb fb n : Nat} {x : Int} {p : Option Addr} {cap : Nat} (h1 : W.cell? ⟨sb, 2, none⟩ = some (.int .i64 x)) (h2 : W.cell? ⟨fb, 1, none⟩ = some (.slice p n cap)) (f1 : W.frozen? ⟨sb, 2, none⟩ = false) (f2 : W.frozen? ⟨fb, 1, none⟩ = false)
    (hx : (n : Int) ≤ x) (hx' : x ≤ 4611686018427387904) :
    Calls Tryz.prog 60 #[.pointer (some ⟨sb, 0, none⟩), .pointer (some ⟨fb, 0, none⟩)] W fun e w' => e = .returned (.tuple #[]) ∧ w' = ((W.setCell ⟨sb, 2, none⟩ (.int .i64 (x - n))).setCell ⟨fb, 1, none⟩ (.slice none 0 0)).drew := by
  go_enter Tryz.func60, Tryz.ntmps60
  go_wp2
  go_region
  go_wp2
  go_end0
  exact ⟨rfl, rfl⟩

/-- How the blocks of a store may be others behind a call. -/
structure Step (W W' : World) (sb mb : Nat) (fs fs' : List MF) : Prop where
  only : Only (own sb mb fs) W W'
  own : ∀ i, own sb mb fs' i → own sb mb fs i ∨ W.heap.size ≤ i
  cov : ∀ i, covs fs' i → covs fs i ∨ W.heap.size ≤ i
theorem Step.refl (W : World) (sb mb : Nat) (fs : List MF) : Step W W sb mb fs fs := ⟨Only.refl _ _, fun _ h => .inl h, fun _ h => .inl h⟩
theorem Step.trans {A B C : World} {sb mb : Nat} {fs gs ks : List MF} (h : Step A B sb mb fs gs) (h' : Step B C sb mb gs ks) : Step A C sb mb fs ks := by
  have hs := h.only.size
  refine ⟨h.only.step h'.only h.own, fun i hi => ?_, fun i hi => ?_⟩
  · rcases h'.own i hi with h1 | h1
    · exact h.own i h1
    · exact .inr (by omega)
  · rcases h'.cov i hi with h1 | h1
    · exact h.cov i h1
    · exact .inr (by omega)
theorem Step.drew {A B : World} {sb mb : Nat} {fs gs : List MF} (h : Step A B sb mb fs gs) : Step A B.drew sb mb fs gs := ⟨h.only.drew, h.own, h.cov⟩
theorem Step.box {A B : World} {sb mb : Nat} {fs : List MF} (h : Only (· = sb) A B) : Step A B sb mb fs fs := ⟨h.mono (fun _ _ e => .inl e), fun _ h => .inl h, fun _ h => .inl h⟩
theorem Step.fresh {A B : World} {sb mb : Nat} {fs : List MF} (h : Below A.heap.size A B) : Step A B sb mb fs fs := ⟨Only.fresh h _, fun _ h => .inl h, fun _ h => .inl h⟩
theorem Chg.step {W W' : World} {sb mb : Nat} {l r : List MF} {f f' : MF} (c : Chg W W' f f') : Step W W' sb mb (l ++ f :: r) (l ++ f' :: r) := by
  refine ⟨c.only.mono (fun i _ h => .inr (.inr ⟨f, by simp, h⟩)), fun i hi => ?_, fun i hi => ?_⟩
  · rcases hi with rfl | rfl | ⟨g, hg, hi⟩
    · exact .inl (.inl rfl)
    · exact .inl (.inr (.inl rfl))
    · simp at hg
      rcases hg with hg | rfl | hg
      · exact .inl (.inr (.inr ⟨g, by simp [hg], hi⟩))
      · exact (c.own hi).imp (fun h => .inr (.inr ⟨f, by simp, h⟩)) id
      · exact .inl (.inr (.inr ⟨g, by simp [hg], hi⟩))
  · obtain ⟨g, hg, hi⟩ := hi
    simp at hg
    rcases hg with hg | rfl | hg
    · exact .inl ⟨g, by simp [hg], hi⟩
    · exact (c.cov i hi).imp (fun h => ⟨f, by simp, h⟩) id
    · exact .inl ⟨g, by simp [hg], hi⟩

/-- A file whose pending writes stand. -/
def settled (f : MF) : MF := { f with ws := [], pv := .slice none 0 0 }

theorem settle_rep {W : World} {sb mb pend turn : Nat} {left : Int} {l r : List MF} {f : MF} {up : Bool} (h : SRep W sb mb (l ++ f :: r) left pend turn up) (hp : f.ws.length ≤ pend) (hp' : pend ≤ 4611686018427387904) :
    Calls Tryz.prog 60 #[.pointer (some ⟨sb, 0, none⟩), .pointer (some ⟨f.fb, 0, none⟩)] W fun e w' => e = .returned (.tuple #[]) ∧ SRep w' sb mb (l ++ settled f :: r) left (pend - f.ws.length) turn up ∧ Step W w' sb mb (l ++ f :: r) (l ++ settled f :: r) := by
  have hF := h.files f (by simp)
  obtain ⟨_, c1, _, f1⟩ := hF.fcells
  obtain ⟨_, _, b2, _, _⟩ := box_cells h.box
  have g2 := box_frozen h.box 2
  obtain ⟨p, cap, he, _, _⟩ := own_form hF.pen
  rw [he] at c1
  refine (settle_any b2 c1 g2 f1 (by omega) (by omega)).mono ?_
  rintro e w' ⟨rfl, rfl⟩
  have e1 : ((pend : Int) - (f.ws.length : Int)) = ((pend - f.ws.length : Nat) : Int) := by omega
  rw [e1]
  have h1 := h.setPend (pend - f.ws.length)
  have c := (h1.files f (by simp)).setPen
  exact ⟨rfl, (h1.change c).drew, ((Step.box (Only.set _ _ _ _ rfl)).trans c.step).drew⟩

set_option maxRecDepth 100000 in
set_option maxHeartbeats 1000000 in
theorem sync_none {W : World} {sb mb pend turn : Nat} {left : Int} {fs : List MF} (h : SRep W sb mb fs left pend turn true) {s : ByteArray} (hlen : s.size ≤ maxLen) (hf : fileOf fs s.data.toList = none) :
    Calls Tryz.prog 26 #[.pointer (some ⟨sb, 0, none⟩), .string s] W fun e w' => e = .returned (.int .i64 4) ∧ w' = W := by
  obtain ⟨c0, _, _, _, c4⟩ := box_cells h.box
  have HF := hide (find_any c0 c4 h.map hlen)
  unfold ptrOf at HF
  rw [hf] at HF
  simp only [Option.map_none, Option.isSome_none] at HF
  clear hf h c0 c4
  go_enter Tryz.func26, Tryz.ntmps26
  go_wp2_with fail
  refine HF.out.mono ?_
  rintro _ _ ⟨rfl, rfl⟩
  go_wp2
  go_ret
  exact ⟨rfl, rfl⟩
set_option maxRecDepth 100000 in
set_option maxHeartbeats 1000000 in
theorem sync_some {W : World} {sb mb pend turn : Nat} {left : Int} {l r : List MF} {f : MF} (h : SRep W sb mb (l ++ f :: r) left pend turn true) {s : ByteArray} (hlen : s.size ≤ maxLen) (hf : fileOf (l ++ f :: r) s.data.toList = some f) (hp : f.ws.length ≤ pend) (hp' : pend ≤ 4611686018427387904) :
    Calls Tryz.prog 26 #[.pointer (some ⟨sb, 0, none⟩), .string s] W fun e w' => e = .returned (.int .i64 0) ∧ SRep w' sb mb (l ++ settled f :: r) left (pend - f.ws.length) turn true ∧ Step W w' sb mb (l ++ f :: r) (l ++ settled f :: r) := by
  obtain ⟨c0, _, _, _, c4⟩ := box_cells h.box
  have HF := hide (find_any c0 c4 h.map hlen)
  unfold ptrOf at HF
  rw [hf] at HF
  simp only [Option.map_some, Option.isSome_some] at HF
  have HS := hide (settle_rep h hp hp')
  clear hf h c0 c4
  go_enter Tryz.func26, Tryz.ntmps26
  go_wp2_with fail
  refine HF.out.mono ?_
  rintro _ _ ⟨rfl, rfl⟩
  go_wp2_with fail
  refine HS.out.mono ?_
  rintro _ w1 ⟨rfl, h1, h2⟩
  go_wp2
  go_ret
  exact ⟨rfl, h1, h2⟩
end Go.Proofs.YtikpckmlnhcddaaGreat
