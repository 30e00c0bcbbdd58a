/-
  A store as it lies in memory: its own cells, its map of files by names, each file's content and pending writes, each in memory of its own; and that this stays while nothing of it is turned. No conditions.
-/
import Derived.Test.YtikpckmlnhcddaaGreatOnl
namespace Go.Proofs.YtikpckmlnhcddaaGreat
open Go.RowKit Go.Maps

/-- A pending write: its place in the one order, where it begins, how long it is, what it covered. -/
structure PW where
  turn : Nat
  beg : Nat
  size : Nat
  cl : List Int
  deriving DecidableEq

structure MW where
  p : PW
  cov : Value

structure MF where
  name : List UInt8
  c : List Int
  ws : List MW
  fb : Nat
  cv : Value
  pv : Value

def MW.cells (x : MW) : List Value := [.int .i64 x.p.turn, .int .i64 x.p.beg, .int .i64 x.p.size, x.cov]

/-- Two slices lie in blocks of their own. -/
def Apart (v v' : Value) : Prop := ∀ b, v.ownBlock = some b → v'.ownBlock ≠ some b
theorem Apart.symm {v v' : Value} (h : Apart v v') : Apart v' v := fun b hb hv => h b hv hb

structure FRep (W : World) (f : MF) : Prop where
  box : W.heap[f.fb]? = some (.cells #[f.cv, f.pv] 80 (0, 0))
  con : W.ownsRow 0 5 1 f.cv f.c.length (f.c.map (Value.int .u8))
  pen : W.ownsRow 0 93 4 f.pv f.ws.length (f.ws.flatMap MW.cells)
  cov : ∀ x ∈ f.ws, W.ownsRow 0 5 1 x.cov x.p.cl.length (x.p.cl.map (Value.int .u8)) ∧ U8 x.p.cl
  u8 : U8 f.c

def ownF (f : MF) (i : Nat) : Prop := i = f.fb ∨ f.cv.ownBlock = some i ∨ f.pv.ownBlock = some i
def covF (f : MF) (i : Nat) : Prop := ∃ x ∈ f.ws, x.cov.ownBlock = some i
def own (sb mb : Nat) (fs : List MF) (i : Nat) : Prop := i = sb ∨ i = mb ∨ ∃ f ∈ fs, ownF f i
def covs (fs : List MF) (i : Nat) : Prop := ∃ f ∈ fs, covF f i

def ptrElem : Value → Option (DataW Unit × List MemPlace)
  | .pointer (some ⟨b, 0, none⟩) => some (.lit (.int .i64 b), [])
  | .pointer none => some (.lit (.bool false), [])
  | _ => none
theorem ptrElem_mk (b : Nat) : ptrElem (.pointer (some ⟨b, 0, none⟩)) = some (.lit (.int .i64 b), []) := rfl
theorem ptrElem_inv {v : Value} {b : Nat} {ps : List MemPlace} (h : ptrElem v = some (.lit (.int .i64 (b : Int)), ps)) : v = .pointer (some ⟨b, 0, none⟩) := by
  unfold ptrElem at h
  split at h <;> simp_all
  omega
theorem ptrElem_nil {v : Value} {ps : List MemPlace} (h : ptrElem v = some (.lit (.bool false), ps)) : v = .pointer none := by
  unfold ptrElem at h
  split at h <;> simp_all

def ent (f : MF) : Lit × DataW Unit := (.string f.name, .lit (.int .i64 f.fb))

def Bef (f g : MF) : Prop := bytesBefore f.name g.name = true

structure SRep (W : World) (sb mb : Nat) (fs : List MF) (left : Int) (pend turn : Nat) (up : Bool) : Prop where
  box : W.heap[sb]? = some (.cells #[.map (some mb), .int .i64 left, .int .i64 pend, .int .i64 turn, .bool up] 63 (0, 0))
  map : W.ownsMap Tryz.prog 9 ptrElem mb fs.length (.map (fs.map ent))
  files : ∀ f ∈ fs, FRep W f
  sorted : fs.Pairwise Bef
  apart : fs.Pairwise (fun f g => f.fb ≠ g.fb ∧ Apart f.cv g.cv ∧ Apart f.pv g.pv)
  sep : ∀ f ∈ fs, ∀ g ∈ fs, ∀ x ∈ g.ws, Apart f.cv x.cov

theorem FRep.only {F : Nat → Prop} {W W' : World} {f : MF} (h : FRep W f) (ho : Only F W W') (h1 : ∀ i, ownF f i → ¬ F i) (h2 : ∀ i, covF f i → ¬ F i) : FRep W' f :=
  ⟨ho.obj h.box (h1 _ (.inl rfl)), ownsRow_only h.con ho (fun b hb => h1 b (.inr (.inl hb))), ownsRow_only h.pen ho (fun b hb => h1 b (.inr (.inr hb))),
    fun x hx => ⟨ownsRow_only (h.cov x hx).1 ho (fun b hb => h2 b ⟨x, hx, hb⟩), (h.cov x hx).2⟩, h.u8⟩

theorem SRep.only {F : Nat → Prop} {W W' : World} {sb mb pend turn : Nat} {left : Int} {fs : List MF} {up : Bool} (h : SRep W sb mb fs left pend turn up) (ho : Only F W W') (h1 : ∀ i, own sb mb fs i → ¬ F i) (h2 : ∀ i, covs fs i → ¬ F i) : SRep W' sb mb fs left pend turn up :=
  ⟨ho.obj h.box (h1 _ (.inl rfl)), ownsMap_only h.map ho (h1 _ (.inr (.inl rfl))), fun f hf => (h.files f hf).only ho (fun i hi => h1 i (.inr (.inr ⟨f, hf, hi⟩))) (fun i hi => h2 i ⟨f, hf, hi⟩), h.sorted, h.apart, h.sep⟩

theorem SRep.fresh {W W' : World} {sb mb pend turn : Nat} {left : Int} {fs : List MF} {up : Bool} (h : SRep W sb mb fs left pend turn up) (hb : Below W.heap.size W W') : SRep W' sb mb fs left pend turn up :=
  h.only (Only.fresh hb fun _ => False) (fun _ _ h => h) (fun _ _ h => h)

theorem FRep.drew {W : World} {f : MF} (h : FRep W f) : FRep W.drew f := ⟨h.box, h.con, h.pen, h.cov, h.u8⟩
theorem SRep.drew {W : World} {sb mb pend turn : Nat} {left : Int} {fs : List MF} {up : Bool} (h : SRep W sb mb fs left pend turn up) : SRep W.drew sb mb fs left pend turn up :=
  ⟨h.box, h.map, fun f hf => (h.files f hf).drew, h.sorted, h.apart, h.sep⟩

/- WHICH BLOCKS ARE NOT ONE. -/
theorem FRep.own_kind {W : World} {f : MF} (h : FRep W f) {i : Nat} (hi : ownF f i) : ∃ cur e, W.heap[i]? = some (.cells cur e (0, 0)) ∧ e ≠ 63 := by
  rcases hi with rfl | hi | hi
  · exact ⟨_, _, h.box, by decide⟩
  · obtain ⟨_, cur, hc⟩ := own_block_lt h.con hi
    exact ⟨cur, _, hc, by decide⟩
  · obtain ⟨_, cur, hc⟩ := own_block_lt h.pen hi
    exact ⟨cur, _, hc, by decide⟩
theorem SRep.sb_not {W : World} {sb mb pend turn : Nat} {left : Int} {fs : List MF} {up : Bool} (h : SRep W sb mb fs left pend turn up) {f : MF} (hf : f ∈ fs) : ¬ ownF f sb := fun hi => by
  obtain ⟨cur, e, he, hne⟩ := (h.files f hf).own_kind hi
  rw [h.box] at he
  simp at he
  exact hne he.2.symm
theorem SRep.mb_not {W : World} {sb mb pend turn : Nat} {left : Int} {fs : List MF} {up : Bool} (h : SRep W sb mb fs left pend turn up) {f : MF} (hf : f ∈ fs) : ¬ ownF f mb := fun hi => by
  obtain ⟨cur, e, he, hne⟩ := (h.files f hf).own_kind hi
  obtain ⟨es, clock, hb, _⟩ := h.map
  rw [hb] at he
  simp at he
theorem SRep.sb_mb {W : World} {sb mb pend turn : Nat} {left : Int} {fs : List MF} {up : Bool} (h : SRep W sb mb fs left pend turn up) : sb ≠ mb := fun e => by
  obtain ⟨es, clock, hb, _⟩ := h.map
  have := h.box
  rw [e, hb] at this
  simp at this
theorem FRep.cov_kind {W : World} {f : MF} (h : FRep W f) {i : Nat} (hi : covF f i) : ∃ cur, W.heap[i]? = some (.cells cur 5 (0, 0)) := by
  obtain ⟨x, hx, hb⟩ := hi
  exact (own_block_lt (h.cov x hx).1 hb).2
/-- What pending writes keep lies in no block that a store writes to. -/
theorem SRep.cov_own {W : World} {sb mb pend turn : Nat} {left : Int} {fs : List MF} {up : Bool} (h : SRep W sb mb fs left pend turn up) {i : Nat} (hc : covs fs i) : ¬ own sb mb fs i := by
  obtain ⟨g, hg, hi⟩ := hc
  obtain ⟨cur, hk⟩ := (h.files g hg).cov_kind hi
  rintro (rfl | rfl | ⟨f, hf, ho⟩)
  · rw [h.box] at hk; simp at hk
  · obtain ⟨es, clock, hb, _⟩ := h.map
    rw [hb] at hk; simp at hk
  · rcases ho with rfl | ho | ho
    · rw [(h.files f hf).box] at hk; simp at hk
    · obtain ⟨x, hx, hb⟩ := hi
      exact h.sep f hf g hg x hx i ho hb
    · obtain ⟨_, cur', hc⟩ := own_block_lt (h.files f hf).pen ho
      rw [hc] at hk; simp at hk
theorem SRep.own_lt {W : World} {sb mb pend turn : Nat} {left : Int} {fs : List MF} {up : Bool} (h : SRep W sb mb fs left pend turn up) {i : Nat} (hi : own sb mb fs i) : i < W.heap.size := by
  rcases hi with rfl | rfl | ⟨f, hf, hi⟩
  · exact (Array.getElem?_eq_some_iff.1 h.box).1
  · exact h.map.lt
  · obtain ⟨cur, e, he, _⟩ := (h.files f hf).own_kind hi
    exact (Array.getElem?_eq_some_iff.1 he).1
theorem SRep.cov_lt {W : World} {sb mb pend turn : Nat} {left : Int} {fs : List MF} {up : Bool} (h : SRep W sb mb fs left pend turn up) {i : Nat} (hi : covs fs i) : i < W.heap.size := by
  obtain ⟨f, hf, hi⟩ := hi
  obtain ⟨cur, he⟩ := (h.files f hf).cov_kind hi
  exact (Array.getElem?_eq_some_iff.1 he).1

/-- Two files' blocks are apart. -/
theorem FRep.apart {W : World} {f g : MF} (hf : FRep W f) (hg : FRep W g) (ha : f.fb ≠ g.fb ∧ Apart f.cv g.cv ∧ Apart f.pv g.pv) {i : Nat} (h1 : ownF f i) : ¬ ownF g i := by
  intro h2
  have kind : ∀ {f : MF}, FRep W f → ownF f i → ∃ cur e, W.heap[i]? = some (.cells cur e (0, 0)) ∧ ((i = f.fb ∧ e = 80) ∨ (f.cv.ownBlock = some i ∧ e = 5) ∨ (f.pv.ownBlock = some i ∧ e = 93)) := by
    intro f hf h
    rcases h with rfl | h | h
    · exact ⟨_, _, hf.box, .inl ⟨rfl, rfl⟩⟩
    · obtain ⟨_, cur, hc⟩ := own_block_lt hf.con h
      exact ⟨cur, _, hc, .inr (.inl ⟨h, rfl⟩)⟩
    · obtain ⟨_, cur, hc⟩ := own_block_lt hf.pen h
      exact ⟨cur, _, hc, .inr (.inr ⟨h, rfl⟩)⟩
  obtain ⟨c1, e1, k1, d1⟩ := kind hf h1
  obtain ⟨c2, e2, k2, d2⟩ := kind hg h2
  rw [k1] at k2
  simp at k2
  obtain ⟨_, rfl⟩ := k2
  rcases d1 with ⟨a1, rfl⟩ | ⟨a1, rfl⟩ | ⟨a1, rfl⟩ <;> rcases d2 with ⟨a2, b2⟩ | ⟨a2, b2⟩ | ⟨a2, b2⟩ <;> first | (exact absurd b2 (by decide)) | skip
  · exact ha.1 (a1.symm.trans a2)
  · exact ha.2.1 i a1 a2
  · exact ha.2.2 i a1 a2

theorem SRep.pair {W : World} {sb mb pend turn : Nat} {left : Int} {l r : List MF} {f g : MF} {up : Bool} (h : SRep W sb mb (l ++ f :: r) left pend turn up) (hg : g ∈ l ∨ g ∈ r) : f.fb ≠ g.fb ∧ Apart f.cv g.cv ∧ Apart f.pv g.pv := by
  have ha := List.pairwise_append.1 h.apart
  have hc := List.pairwise_cons.1 ha.2.1
  rcases hg with hg | hg
  · have := ha.2.2 g hg f (by simp)
    exact ⟨fun e => this.1 e.symm, this.2.1.symm, this.2.2.symm⟩
  · exact hc.1 g hg

/-- What holds behind a change of one file: of its content and its pending writes. -/
structure Chg (W W' : World) (f f' : MF) : Prop where
  only : Only (ownF f) W W'
  rep : FRep W' f'
  name : f'.name = f.name
  fb : f'.fb = f.fb
  cv : ∀ b, f'.cv.ownBlock = some b → f.cv.ownBlock = some b ∨ W.heap.size ≤ b
  pv : ∀ b, f'.pv.ownBlock = some b → f.pv.ownBlock = some b ∨ W.heap.size ≤ b
  cov : ∀ b, covF f' b → covF f b ∨ W.heap.size ≤ b
  sep : ∀ x ∈ f'.ws, Apart f'.cv x.cov

theorem Chg.refl {W : World} {f : MF} (h : FRep W f) (hs : ∀ x ∈ f.ws, Apart f.cv x.cov) : Chg W W f f :=
  ⟨Only.refl _ _, h, rfl, rfl, fun _ h => .inl h, fun _ h => .inl h, fun _ h => .inl h, hs⟩
theorem Chg.own {W W' : World} {f f' : MF} (h : Chg W W' f f') {i : Nat} (hi : ownF f' i) : ownF f i ∨ W.heap.size ≤ i := by
  rcases hi with rfl | hi | hi
  · exact .inl (.inl h.fb)
  · exact (h.cv i hi).imp (fun h => .inr (.inl h)) id
  · exact (h.pv i hi).imp (fun h => .inr (.inr h)) id
theorem Chg.trans {A B C : World} {f g k : MF} (h : Chg A B f g) (h' : Chg B C g k) : Chg A C f k := by
  have hs := h.only.size
  refine ⟨h.only.step h'.only (fun i hi => h.own hi), h'.rep, h'.name.trans h.name, h'.fb.trans h.fb, fun b hb => ?_, fun b hb => ?_, fun b hb => ?_, h'.sep⟩
  · rcases h'.cv b hb with h1 | h1
    · exact h.cv b h1
    · exact .inr (by omega)
  · rcases h'.pv b hb with h1 | h1
    · exact h.pv b h1
    · exact .inr (by omega)
  · rcases h'.cov b hb with h1 | h1
    · exact h.cov b h1
    · exact .inr (by omega)

theorem SRep.change {W W' : World} {sb mb pend turn : Nat} {left : Int} {l r : List MF} {f f' : MF} {up : Bool} (h : SRep W sb mb (l ++ f :: r) left pend turn up) (c : Chg W W' f f') : SRep W' sb mb (l ++ f' :: r) left pend turn up := by
  have hf : f ∈ l ++ f :: r := by simp
  have hin : ∀ g, g ∈ l ∨ g ∈ r → g ∈ l ++ f :: r := fun g hg => hg.elim (fun h => by simp [h]) (fun h => by simp [h])
  have others : ∀ g, g ∈ l ∨ g ∈ r → FRep W' g := fun g hg => by
    refine (h.files g (hin g hg)).only c.only (fun i hi hf' => ?_) (fun i hi hf' => ?_)
    · exact (h.files f hf).apart (h.files g (hin g hg)) (h.pair hg) hf' hi
    · exact h.cov_own ⟨g, hin g hg, hi⟩ (.inr (.inr ⟨f, hf, hf'⟩))
  have hfe : (l ++ f' :: r).map ent = (l ++ f :: r).map ent := by simp [ent, c.name, c.fb]
  refine ⟨c.only.obj h.box (h.sb_not hf), ?_, ?_, ?_, ?_, ?_⟩
  · rw [hfe]
    have := ownsMap_only h.map c.only (h.mb_not hf)
    simpa using this
  · intro g hg
    simp at hg
    rcases hg with hg | rfl | hg
    · exact others g (.inl hg)
    · exact c.rep
    · exact others g (.inr hg)
  · have hs := h.sorted
    rw [List.pairwise_append, List.pairwise_cons] at hs ⊢
    refine ⟨hs.1, ⟨fun g hg => ?_, hs.2.1.2⟩, fun g hg k hk => ?_⟩
    · have := hs.2.1.1 g hg; unfold Bef at *; rw [c.name]; exact this
    · simp at hk
      rcases hk with rfl | hk
      · have := hs.2.2 g hg f (by simp); unfold Bef at *; rw [c.name]; exact this
      · exact hs.2.2 g hg k (by simp [hk])
  · have new : ∀ g, g ∈ l ∨ g ∈ r → f'.fb ≠ g.fb ∧ Apart f'.cv g.cv ∧ Apart f'.pv g.pv := fun g hg => by
      have hp := h.pair hg
      refine ⟨by rw [c.fb]; exact hp.1, fun b hb hg' => ?_, fun b hb hg' => ?_⟩
      · rcases c.cv b hb with h1 | h1
        · exact hp.2.1 b h1 hg'
        · have := (own_block_lt (h.files g (hin g hg)).con hg').1; omega
      · rcases c.pv b hb with h1 | h1
        · exact hp.2.2 b h1 hg'
        · have := (own_block_lt (h.files g (hin g hg)).pen hg').1; omega
    have ha := h.apart
    rw [List.pairwise_append, List.pairwise_cons] at ha ⊢
    refine ⟨ha.1, ⟨fun g hg => new g (.inr hg), ha.2.1.2⟩, fun g hg k hk => ?_⟩
    simp at hk
    rcases hk with rfl | hk
    · have := new g (.inl hg)
      exact ⟨fun e => this.1 e.symm, this.2.1.symm, this.2.2.symm⟩
    · exact ha.2.2 g hg k (by simp [hk])
  · intro g hg k hk x hx b hb hxb
    simp at hg hk
    -- the block of a kept row: old, or new
    have old : ∀ k, (k ∈ l ∨ k ∈ r) → ∀ x ∈ k.ws, x.cov.ownBlock = some b → b < W.heap.size ∧ ∀ u, u ∈ l ++ f :: r → u.cv.ownBlock ≠ some b := fun k hk x hx hxb =>
      ⟨h.cov_lt ⟨k, hin k hk, x, hx, hxb⟩, fun u hu hub => h.sep u hu k (hin k hk) x hx b hub hxb⟩
    by_cases hk' : k = f'
    · subst hk'
      by_cases hg' : g = k
      · subst hg'; exact c.sep x hx b hb hxb
      · have hgm : g ∈ l ∨ g ∈ r := hg.elim .inl (fun h => h.elim (fun h => absurd h hg') .inr)
        rcases c.cov b ⟨x, hx, hxb⟩ with ⟨y, hy, hyb⟩ | h1
        · exact h.sep g (hin g hgm) f hf y hy b hb hyb
        · have := (own_block_lt (h.files g (hin g hgm)).con hb).1; omega
    · have hkm : k ∈ l ∨ k ∈ r := hk.elim .inl (fun h => h.elim (fun h => absurd h hk') .inr)
      obtain ⟨hlt, hno⟩ := old k hkm x hx hxb
      by_cases hg' : g = f'
      · subst hg'
        rcases c.cv b hb with h1 | h1
        · exact hno f hf h1
        · omega
      · exact hno g (hin g (hg.elim .inl (fun h => h.elim (fun h => absurd h hg') .inr))) hb

end Go.Proofs.YtikpckmlnhcddaaGreat
