/-
  The document's store, plainly: what each call answers and makes of it; pending writes over bytes, and taken back. No conditions.
-/
import Derived.Test.YtikpckmlnhcddaaGreatRnw
namespace Go.Proofs.YtikpckmlnhcddaaGreat
open Go.RowKit Go.Maps

abbrev Nm := List UInt8
abbrev By := List Int
structure CF where
  name : Nm
  b : By
  deriving DecidableEq
structure CP where
  name : Nm
  beg : Nat
  b : By
  deriving DecidableEq
instance : Inhabited CF := ⟨⟨[], []⟩⟩
instance : Inhabited CP := ⟨⟨[], 0, []⟩⟩
structure RC where
  L : List CF
  P : List CP
  most : Nat
  down : Bool

def RF.core (f : RF) : CF := ⟨f.name, f.b⟩
def RP.core (p : RP) : CP := ⟨p.name, p.beg, p.b⟩
def RS.core (R : RS) : RC := ⟨R.L.map RF.core, R.P.map RP.core, R.most, R.down⟩

def upd (B : Nm → By) (n : Nm) (c : By) : Nm → By := fun m => if m = n then c else B m
def one (B : Nm → By) (p : CP) : Nm → By := upd B p.name (putL (B p.name) p.beg p.b)
def allB (B : Nm → By) (ps : List CP) : Nm → By := ps.foldl one B
def fileC (L : List CF) (n : Nm) : Option CF := L.find? (fun f => f.name == n)
def base (L : List CF) : Nm → By := fun n => match fileC L n with | some f => f.b | none => []
def RC.has (r : RC) (n : Nm) : Bool := (fileC r.L n).isSome
def RC.all (r : RC) (n : Nm) : By := allB (base r.L) r.P n
def RC.sizes (r : RC) : Nat := (r.L.map (fun f => (r.all f.name).length)).sum
def RC.left (r : RC) : Int := (r.most : Int) - (r.sizes : Nat)
def RC.may (r : RC) (n : Nm) : Int := if r.down then 32 else if r.has n then 0 else 4

def insC (x : CF) : List CF → List CF
  | [] => [x]
  | y :: l => if bytesBefore y.name x.name then y :: insC x l else x :: y :: l
def setC (L : List CF) (n : Nm) (b : By) : List CF := L.map (fun f => if f.name = n then { f with b := b } else f)
def offL (L : List CF) (n : Nm) : List CF := L.filter (fun f => !(f.name == n))
def offP (P : List CP) (n : Nm) : List CP := P.filter (fun p => !(p.name == n))
def ren (n t : Nm) (p : CP) : CP := if p.name = n then { p with name := t } else p

def RC.createE (r : RC) (n : Nm) : Int := if r.down then 32 else if n = [] ∨ r.has n = true then 31 else if 4096 ≤ r.L.length then 6 else 0
def RC.create (r : RC) (n : Nm) : RC := if r.createE n = 0 then { r with L := insC ⟨n, []⟩ r.L } else r
def more (len : Nat) (k : Int) (b : By) : Int := (b.length : Int) - ((len : Int) - k)
def RC.writeE (r : RC) (n : Nm) (k : Int) (b : By) : Int :=
  if r.may n = 0 then (if k < 0 ∨ ((r.all n).length : Int) < k then 33 else if 0 < more (r.all n).length k b ∧ r.left < more (r.all n).length k b then 30 else 0) else r.may n
def RC.write (r : RC) (n : Nm) (k : Int) (b : By) : RC := if r.writeE n k b = 0 ∧ b ≠ [] then { r with P := r.P ++ [⟨n, k.toNat, b⟩] } else r
def RC.sync (r : RC) (n : Nm) : RC := if r.may n = 0 then { r with L := setC r.L n (r.all n), P := offP r.P n } else r
def RC.cutE (r : RC) (n : Nm) (k : Int) : Int := if r.may n = 0 then (if k < 0 ∨ ((r.all n).length : Int) < k then 33 else 0) else r.may n
def RC.cut (r : RC) (n : Nm) (k : Int) : RC := if r.cutE n k = 0 then { r with L := setC r.L n ((r.all n).take k.toNat), P := offP r.P n } else r
def RC.remove (r : RC) (n : Nm) : RC := if r.may n = 0 then { r with L := offL r.L n, P := offP r.P n } else r
def RC.renameE (r : RC) (n t : Nm) : Int := if r.may n = 0 then (if t = [] then 31 else 0) else r.may n
def RC.rename (r : RC) (n t : Nm) : RC := if r.renameE n t = 0 ∧ t ≠ n then { r with L := insC ⟨t, base r.L n⟩ (offL (offL r.L t) n), P := (offP r.P t).map (ren n t) } else r
def kept (P : List CP) (k : Nat) (torn : Int) : List CP :=
  P.take k ++ ((P.drop k).take 1).map (fun p => { p with b := p.b.take ((mag torn).toNat % (p.b.length + 1)) })
def RC.crashE (r : RC) : Int := if r.down then 32 else 0
def RC.crash (r : RC) (keep torn : Int) : RC :=
  if r.down then r else { r with L := r.L.map (fun f => { f with b := allB (base r.L) (kept r.P ((mag keep).toNat % (r.P.length + 1)) torn) f.name }), P := [], down := true }
def RC.startE (r : RC) : Int := if r.down then 0 else 1
def RC.start (r : RC) : RC := if r.down then { r with down := false } else r

/- WRITES OVER BYTES. -/
theorem upd_same (B : Nm → By) (n : Nm) (c : By) : upd B n c n = c := by simp [upd]
theorem upd_off (B : Nm → By) {n m : Nm} (c : By) (h : m ≠ n) : upd B n c m = B m := by simp [upd, h]
theorem one_off (B : Nm → By) {p : CP} {m : Nm} (h : m ≠ p.name) : one B p m = B m := upd_off B _ h
theorem one_same (B : Nm → By) (p : CP) : one B p p.name = putL (B p.name) p.beg p.b := upd_same B _ _
theorem allB_nil (B : Nm → By) : allB B [] = B := rfl
theorem allB_cons (B : Nm → By) (p : CP) (ps : List CP) : allB B (p :: ps) = allB (one B p) ps := rfl
theorem allB_append (B : Nm → By) (ps qs : List CP) : allB B (ps ++ qs) = allB (allB B ps) qs := by simp [allB]
theorem allB_snoc (B : Nm → By) (ps : List CP) (p : CP) : allB B (ps ++ [p]) = one (allB B ps) p := by simp [allB]

/-- Only what stands under the name counts. -/
theorem allB_congr {q : Nm → Bool} : ∀ {ps : List CP} {B B' : Nm → By}, (∀ m, q m = true → B m = B' m) → ∀ m, q m = true → allB B ps m = allB B' (ps.filter (fun p => q p.name)) m
  | [], B, B', h, m, hm => h m hm
  | p :: ps, B, B', h, m, hm => by
    rw [allB_cons]
    by_cases hp : q p.name = true
    · rw [List.filter_cons_of_pos (p := fun p : CP => q p.name) hp, allB_cons]
      refine allB_congr (fun k hk => ?_) m hm
      unfold one upd
      by_cases e : k = p.name
      · simp only [e, if_true]; rw [h p.name hp]
      · simp only [e, if_false]; exact h k hk
    · rw [List.filter_cons_of_neg (p := fun p : CP => q p.name) hp]
      refine allB_congr (fun k hk => ?_) m hm
      rw [one_off B (fun e => hp (by rw [← e]; exact hk))]
      exact h k hk
theorem allB_off {ps : List CP} {B : Nm → By} {n : Nm} (h : ∀ p ∈ ps, p.name ≠ n) : allB B ps n = B n := by
  have := allB_congr (q := fun m => m == n) (ps := ps) (B := B) (B' := B) (fun _ _ => rfl) n (by simp)
  rw [this]
  have e : ps.filter (fun p => p.name == n) = [] := by
    rw [List.filter_eq_nil_iff]
    intro p hp
    simpa using h p hp
  rw [e]; rfl
theorem allB_offP {ps : List CP} {B B' : Nm → By} {n m : Nm} (h : ∀ m, m ≠ n → B m = B' m) (hm : m ≠ n) : allB B ps m = allB B' (offP ps n) m :=
  allB_congr (q := fun m => !(m == n)) (fun k hk => h k (by simpa using hk)) m (by simpa using hm)
theorem allB_ren {n t : Nm} (hnt : n ≠ t) : ∀ {ps : List CP} {B B' : Nm → By}, (∀ p ∈ ps, p.name ≠ t) → B' t = B n → (∀ m, m ≠ n → m ≠ t → B' m = B m) →
    allB B' (ps.map (ren n t)) t = allB B ps n ∧ ∀ m, m ≠ n → m ≠ t → allB B' (ps.map (ren n t)) m = allB B ps m
  | [], B, B', _, h1, h2 => ⟨h1, h2⟩
  | p :: ps, B, B', h0, h1, h2 => by
    simp only [List.map_cons, allB_cons]
    have hpt := h0 p (by simp)
    refine allB_ren hnt (fun q hq => h0 q (by simp [hq])) ?_ ?_
    · by_cases e : p.name = n
      · simp [ren, e, one, upd, h1]
      · rw [show ren n t p = p by simp [ren, e], one_off B' (fun h => hpt h.symm), one_off B (fun h => e h.symm)]
        exact h1
    · intro m hm hm'
      by_cases e : p.name = n
      · rw [one_off B (fun h => hm (h.trans e)), one_off B' (by simp [ren, e, hm'])]
        exact h2 m hm hm'
      · rw [show ren n t p = p by simp [ren, e]]
        unfold one upd
        by_cases hmp : m = p.name
        · simp only [hmp, if_true]; rw [h2 p.name e hpt]
        · simp only [hmp, if_false]; exact h2 m hm hm'

/- TAKEN BACK. -/
theorem over_get {c b : List Int} {k : Nat} (h : k ≤ c.length) (i : Nat) : (over c k b)[i]? = if i < k then c[i]? else if i < k + b.length then b[i - k]? else c[i]? := by
  unfold over
  rw [List.getElem?_append, List.getElem?_append]
  simp only [List.length_take, Nat.min_eq_left h]
  by_cases h1 : i < k
  · simp [h1]
  · simp only [h1, if_false]
    by_cases h2 : i < k + b.length
    · rw [if_pos (by omega), if_pos h2]
    · rw [if_neg (by omega), if_neg h2, List.getElem?_drop]
      congr 1; omega
theorem back_put {w : PW} {c b : List Int} (h1 : w.size = b.length) (h2 : w.cl = (c.drop w.beg).take b.length) (h3 : w.beg ≤ c.length) {first : Nat} (hf : first ≤ b.length) : takeBackL w (putL c w.beg b) first = putL c w.beg (b.take first) := by
  obtain ⟨turn, beg, size, cl⟩ := w
  simp only at h1 h2 h3
  have hcl : cl.length = min b.length (c.length - beg) := by rw [h2]; simp
  have hget : ∀ j, j < cl.length → cl[j]? = c[beg + j]? := fun j hj => by
    rw [h2, List.getElem?_take_of_lt (by omega), List.getElem?_drop]
  subst h1
  clear h2
  have e : putL = over := rfl
  rw [e]
  have hlen : (over c beg b).length = max c.length (beg + b.length) := by simp [over]; omega
  apply List.ext_getElem?
  intro i
  rw [over_get h3]
  have hlb : (List.take first b).length = first := by simp; omega
  rw [hlb]
  unfold takeBackL
  simp only
  have hc1 : (if first < cl.length then over (over c beg b) (beg + first) (cl.drop first) else over c beg b)[i]? = if beg + first ≤ i ∧ i < beg + cl.length then c[i]? else (over c beg b)[i]? := by
    by_cases hfc : first < cl.length
    · rw [if_pos hfc, over_get (by omega)]
      simp only [List.length_drop]
      by_cases q1 : i < beg + first
      · rw [if_pos q1, if_neg (by omega)]
      · rw [if_neg q1]
        by_cases q2 : i < beg + cl.length
        · rw [if_pos (by omega), if_pos (by omega), List.getElem?_drop, hget _ (by omega)]
          congr 1; omega
        · rw [if_neg (by omega), if_neg (by omega)]
    · rw [if_neg hfc, if_neg (by omega)]
  have ho := over_get (b := b) h3 i
  by_cases q0 : cl.length < b.length
  · rw [if_pos q0, List.getElem?_take, hc1, ho]
    have hb : cl.length = c.length - beg := by omega
    by_cases r1 : i < beg
    · simp [r1]; omega
    · by_cases r2 : i < beg + first
      · have a1 : i < beg + b.length := by omega
        have a2 : i < beg + max first cl.length := by omega
        have a3 : ¬ (beg + first ≤ i ∧ i < beg + cl.length) := by omega
        simp only [r1, r2, a1, a2, a3, if_true, if_false]
        rw [List.getElem?_take_of_lt (by omega)]
      · simp only [r1, r2, if_false]
        by_cases r3 : i < beg + cl.length
        · rw [if_pos (by omega), if_pos (by omega)]
        · rw [if_neg (by omega), List.getElem?_eq_none (by omega)]
  · rw [if_neg q0, hc1, ho]
    by_cases r1 : i < beg
    · rw [if_neg (by omega), if_pos r1, if_pos r1]
    · by_cases r2 : i < beg + first
      · rw [if_neg (by omega), if_neg r1, if_neg r1, if_pos r2, if_pos (by omega), List.getElem?_take_of_lt (by omega)]
      · simp only [r1, r2, if_false]
        by_cases r3 : i < beg + cl.length
        · rw [if_pos (by omega)]
        · rw [if_neg (by omega), if_neg (by omega)]
theorem fits_put {w : PW} {c b : List Int} (h1 : w.size = b.length) (h2 : w.cl = (c.drop w.beg).take b.length) (h3 : w.beg ≤ c.length) (hu : U8 c) : Fits w (putL c w.beg b) := by
  refine ⟨by rw [putL_length h3]; omega, by rw [h2, h1]; simp; omega, ?_⟩
  rw [h2]
  intro x hx
  exact hu x (List.mem_of_mem_drop (List.mem_of_mem_take hx))
theorem putL_u8 {c b : List Int} {k : Nat} (hc : U8 c) (hb : U8 b) : U8 (putL c k b) := by
  intro x hx
  unfold putL at hx
  simp only [List.mem_append] at hx
  rcases hx with hx | hx | hx
  · exact hc x (List.mem_of_mem_take hx)
  · exact hb x hx
  · exact hc x (List.mem_of_mem_drop hx)
end Go.Proofs.YtikpckmlnhcddaaGreat

/-
  A store of the program held against the document's, plainly; each call keeps it. No conditions.
-/
namespace Go.Proofs.YtikpckmlnhcddaaGreat
open Go.RowKit Go.Maps

/- NAMES. -/
theorem fileC_none {L : List CF} {n : Nm} : fileC L n = none ↔ n ∉ L.map CF.name := by
  unfold fileC
  rw [List.find?_eq_none]
  simp
theorem has_iff {r : RC} {n : Nm} : r.has n = true ↔ n ∈ r.L.map CF.name := by
  unfold RC.has
  rw [Option.isSome_iff_ne_none, ne_eq, fileC_none]
  simp
theorem base_off {L : List CF} {n : Nm} (h : n ∉ L.map CF.name) : base L n = [] := by
  unfold base; rw [fileC_none.2 h]
theorem setC_names (L : List CF) (n : Nm) (b : By) : (setC L n b).map CF.name = L.map CF.name := by
  unfold setC
  rw [List.map_map]
  apply List.map_congr_left
  intro f _
  simp only [Function.comp]
  split <;> rfl
theorem base_set {L : List CF} {n : Nm} {b : By} (h : n ∈ L.map CF.name) : base (setC L n b) = upd (base L) n b := by
  funext m
  have e : fileC (setC L n b) m = (fileC L m).map (fun f => if f.name = n then { f with b := b } else f) := by
    unfold fileC setC
    rw [List.find?_map]
    congr 2
    funext f
    simp only [Function.comp]
    split <;> rfl
  unfold base
  rw [e]
  by_cases hm : m = n
  · subst hm
    rw [upd_same]
    cases hf : fileC L m with
    | none => exact absurd h (fileC_none.1 hf)
    | some f =>
      have : f.name = m := by simpa using List.find?_some hf
      simp [this]
  · rw [upd_off _ _ hm]
    cases hf : fileC L m with
    | none => rfl
    | some f =>
      have : f.name = m := by simpa using List.find?_some hf
      have hn : f.name ≠ n := by rw [this]; exact hm
      simp [hn]
theorem base_offL {L : List CF} (n : Nm) : base (offL L n) = upd (base L) n [] := by
  funext m
  by_cases hm : m = n
  · subst hm
    rw [upd_same]
    refine base_off ?_
    simp [offL]
  · rw [upd_off _ _ hm]
    unfold base fileC offL
    rw [List.find?_filter]
    congr 2
    funext f
    by_cases hf : f.name = m
    · have : f.name ≠ n := by rw [hf]; exact hm
      simp [hf, hm]
    · simp [hf]
theorem mem_insC {x y : CF} : ∀ {L : List CF}, y ∈ insC x L ↔ y = x ∨ y ∈ L
  | [] => by simp [insC]
  | z :: r => by
    unfold insC
    split
    · simp only [List.mem_cons, mem_insC (L := r)]
      constructor
      · rintro (h | h | h)
        · exact .inr (.inl h)
        · exact .inl h
        · exact .inr (.inr h)
      · rintro (h | h | h)
        · exact .inr (.inl h)
        · exact .inl h
        · exact .inr (.inr h)
    · simp
theorem base_ins {x : CF} : ∀ {L : List CF}, x.name ∉ L.map CF.name → base (insC x L) = upd (base L) x.name x.b
  | [], _ => by
    funext m
    by_cases hm : m = x.name
    · subst hm; simp [insC, base, fileC, upd]
    · have : ¬ x.name = m := fun h => hm h.symm
      simp [insC, base, fileC, upd, hm, this]
  | y :: L, h => by
    simp only [List.map_cons, List.mem_cons, not_or] at h
    funext m
    unfold insC
    split
    · have ih := congrFun (base_ins (x := x) h.2) m
      by_cases hy : y.name = m
      · have : m ≠ x.name := fun e => h.1 (e.symm.trans hy.symm)
        simp [base, fileC, hy, upd, this]
      · simp only [base, fileC, upd] at ih ⊢
        simp only [List.find?_cons, beq_eq_false_iff_ne.2 hy] at ih ⊢
        exact ih
    · by_cases hx : x.name = m
      · subst hx; simp [base, fileC, upd]
      · have : ¬ m = x.name := fun h => hx h.symm
        simp only [base, fileC, upd, this, if_false]
        simp only [List.find?_cons, beq_eq_false_iff_ne.2 hx]
theorem names_ins {x : CF} {f : MF} (hx : x.name = f.name) : ∀ {L : List CF} {fs : List MF}, L.map CF.name = fs.map MF.name → (∀ g ∈ fs, g.name ≠ f.name) → (insC x L).map CF.name = (insF f fs).map MF.name
  | [], [], _, _ => by simp [insC, insF, hx]
  | [], _ :: _, h, _ => by simp at h
  | _ :: _, [], h, _ => by simp at h
  | y :: L, g :: fs, h, hn => by
    simp only [List.map_cons, List.cons.injEq] at h
    unfold insC insF
    have hg := hn g (by simp)
    rw [h.1, hx]
    by_cases hb : bytesBefore f.name g.name = true
    · have hb' : ¬ bytesBefore g.name f.name = true := fun h' => by
        have := WideShapes.bytes_trans _ _ _ hb h'
        simp [WideAt.bytes_irrefl] at this
      rw [if_pos hb, if_neg hb']
      simp [h.1, h.2, hx]
    · have hb' : bytesBefore g.name f.name = true := by
        rcases WideAt.bytes_total g.name f.name hg with h' | h'
        · exact h'
        · exact absurd h' hb
      rw [if_neg hb, if_pos hb']
      simp only [List.map_cons, h.1]
      rw [names_ins hx h.2 (fun k hk => hn k (by simp [hk]))]
theorem names_off2 {L : List CF} {fs : List MF} (h : L.map CF.name = fs.map MF.name) (n : Nm) : (offL L n).map CF.name = (dropF fs n).map MF.name := by
  unfold offL dropF
  have e1 : (L.filter (fun f => !(f.name == n))).map CF.name = (L.map CF.name).filter (fun m => !(m == n)) := by rw [List.filter_map]; rfl
  have e2 : (fs.filter (fun f => !(f.name == n))).map MF.name = (fs.map MF.name).filter (fun m => !(m == n)) := by rw [List.filter_map]; rfl
  rw [e1, e2, h]

/- SIDE BY SIDE. -/
structure CovAt (B : Nm → By) (j : PL × CP) : Prop where
  beg : j.1.x.p.beg = j.2.beg
  size : j.1.x.p.size = j.2.b.length
  spot : j.2.beg ≤ (B j.2.name).length
  cl : j.1.x.p.cl = ((B j.2.name).drop j.2.beg).take j.2.b.length
def Cov : (Nm → By) → List (PL × CP) → Prop
  | _, [] => True
  | B, j :: J => CovAt B j ∧ Cov (one B j.2) J
theorem cov_append : ∀ {J K : List (PL × CP)} {B : Nm → By}, Cov B (J ++ K) ↔ Cov B J ∧ Cov (allB B (J.map (·.2))) K
  | [], K, B => by simp [Cov, allB]
  | j :: J, K, B => by
    simp only [List.cons_append, Cov, List.map_cons, allB_cons]
    rw [cov_append]
    exact ⟨fun h => ⟨⟨h.1, h.2.1⟩, h.2.2⟩, fun h => ⟨h.1.1, h.1.2, h.2⟩⟩
theorem CovAt.congr {B B' : Nm → By} {j : PL × CP} (h : CovAt B j) (e : B j.2.name = B' j.2.name) : CovAt B' j := ⟨h.beg, h.size, by rw [← e]; exact h.spot, by rw [← e]; exact h.cl⟩
theorem cov_filter {q : Nm → Bool} : ∀ {J : List (PL × CP)} {B B' : Nm → By}, (∀ m, q m = true → B m = B' m) → Cov B J → Cov B' (J.filter (fun j => q j.2.name))
  | [], _, _, _, _ => trivial
  | j :: J, B, B', h, hc => by
    by_cases hp : q j.2.name = true
    · rw [List.filter_cons_of_pos (p := fun j : PL × CP => q j.2.name) hp]
      refine ⟨hc.1.congr (h _ hp), cov_filter (fun k hk => ?_) hc.2⟩
      unfold one upd
      by_cases e : k = j.2.name
      · simp only [e, if_true]; rw [h _ hp]
      · simp only [e, if_false]; exact h k hk
    · rw [List.filter_cons_of_neg (p := fun j : PL × CP => q j.2.name) hp]
      refine cov_filter (fun k hk => ?_) hc.2
      rw [one_off B (fun e => hp (by rw [← e]; exact hk))]
      exact h k hk
theorem cov_ren {n t : Nm} (hnt : n ≠ t) : ∀ {J : List (PL × CP)} {B B' : Nm → By}, (∀ j ∈ J, j.2.name ≠ t) → B' t = B n → (∀ m, m ≠ n → m ≠ t → B' m = B m) → Cov B J → Cov B' (J.map (fun j => (j.1, ren n t j.2)))
  | [], _, _, _, _, _, _ => trivial
  | j :: J, B, B', h0, h1, h2, hc => by
    have hpt := h0 j (by simp)
    simp only [List.map_cons, Cov]
    by_cases e : j.2.name = n
    · have er : ren n t j.2 = { j.2 with name := t } := by simp [ren, e]
      refine ⟨⟨by rw [er]; exact hc.1.beg, by rw [er]; exact hc.1.size, ?_, ?_⟩, cov_ren hnt (fun k hk => h0 k (by simp [hk])) ?_ ?_ hc.2⟩
      · rw [er]; simp only [h1]; rw [← e]; exact hc.1.spot
      · rw [er]; simp only [h1]; rw [← e]; exact hc.1.cl
      · simp [er, one, upd, h1, e]
      · intro m hm hm'
        rw [one_off B (fun h => hm (h.trans e)), one_off B' (by simp [er, hm'])]
        exact h2 m hm hm'
    · have er : ren n t j.2 = j.2 := by simp [ren, e]
      rw [er]
      refine ⟨hc.1.congr (h2 _ e hpt).symm, cov_ren hnt (fun k hk => h0 k (by simp [hk])) ?_ ?_ hc.2⟩
      · rw [one_off B' (fun h => hpt h.symm), one_off B (fun h => e h.symm)]; exact h1
      · intro m hm hm'
        unfold one upd
        by_cases hmp : m = j.2.name
        · simp only [hmp, if_true]; rw [h2 _ e hpt]
        · simp only [hmp, if_false]; exact h2 m hm hm'
theorem cov_get {J : List (PL × CP)} {B : Nm → By} (h : Cov B J) {k : Nat} (hk : k < J.length) : CovAt (allB B ((J.take k).map (·.2))) J[k] := by
  have e : J = J.take k ++ J[k] :: J.drop (k + 1) := by simp
  rw [e, cov_append] at h
  exact h.2.1
theorem len_mono : ∀ (ps : List CP) (B : Nm → By) (m : Nm), (B m).length ≤ (allB B ps m).length
  | [], _, _ => Nat.le_refl _
  | p :: ps, B, m => by
    rw [allB_cons]
    refine Nat.le_trans ?_ (len_mono ps (one B p) m)
    unfold one upd
    split
    · rename_i h; subst h; simp [putL]; omega
    · exact Nat.le_refl _
theorem allB_u8 : ∀ {ps : List CP} {B : Nm → By}, (∀ p ∈ ps, U8 p.b) → (∀ m, U8 (B m)) → ∀ m, U8 (allB B ps m)
  | [], _, _, hB, m => hB m
  | p :: ps, B, hp, hB, m => by
    rw [allB_cons]
    refine allB_u8 (fun q hq => hp q (by simp [hq])) (fun k => ?_) m
    unfold one upd
    split
    · exact putL_u8 (hB _) (hp p (by simp))
    · exact hB k
theorem base_u8 {L : List CF} (h : ∀ f ∈ L, U8 f.b) (m : Nm) : U8 (base L m) := by
  unfold base
  cases hf : fileC L m with
  | none => intro x hx; simp at hx
  | some f => exact h f (List.mem_of_find?_eq_some hf)

/-- How a store of the program lies to the document's. -/
structure InvJ (J : List (PL × CP)) (fs : List MF) (left : Int) (pend turn : Nat) (r : RC) (N : Nat) : Prop where
  P : r.P = J.map (·.2)
  ws : ∀ f ∈ fs, f.ws = (J.filter (fun j => j.2.name == f.name)).map (·.1.x)
  link : ∀ j ∈ J, ∃ f ∈ fs, f.fb = j.1.fb ∧ f.name = j.2.name
  rise : J.Pairwise (fun a b => a.1.x.p.turn < b.1.x.p.turn)
  last : ∀ j ∈ J, j.1.x.p.turn ≤ turn
  names : r.L.map CF.name = fs.map MF.name
  cov : Cov (base r.L) J
  con : ∀ f ∈ fs, f.c = r.all f.name
  pend : pend = J.length
  room : left + (lens (fs.map MF.core) : Nat) = r.most
  left0 : 0 ≤ left
  most : r.most ≤ 4194304
  files : fs.length ≤ 4096
  nm : ∀ f ∈ fs, f.name.length ≤ maxLen
  sorted : fs.Pairwise Bef
  fbs : fs.Pairwise (fun f g => f.fb ≠ g.fb)
  lu8 : ∀ f ∈ r.L, U8 f.b
  pu8 : ∀ p ∈ r.P, U8 p.b
  down : r.down = true → J = []
  turn : turn ≤ N
  len : J.length ≤ N
end Go.Proofs.YtikpckmlnhcddaaGreat

/-
  Each call keeps a store of the program as the document's: Create, Write, Sync, Cut, Remove, Rename. No conditions.
-/
namespace Go.Proofs.YtikpckmlnhcddaaGreat
open Go.RowKit Go.Maps

theorem mem_of_fileOf {fs : List MF} {n : Nm} {f : MF} (h : fileOf fs n = some f) : f ∈ fs ∧ f.name = n := ⟨List.mem_of_find?_eq_some h, by simpa using List.find?_some h⟩
theorem fileOf_some {fs : List MF} {n : Nm} : (fileOf fs n).isSome = true ↔ n ∈ fs.map MF.name := by
  unfold fileOf
  rw [List.find?_isSome]
  simp
theorem lensF (fs : List MF) : lens (fs.map MF.core) = (fs.map (fun f => f.c.length)).sum := by
  unfold lens
  rw [List.map_map]
  rfl
theorem sum_le_mem : ∀ {fs : List MF} {f : MF}, f ∈ fs → f.c.length ≤ (fs.map (fun f => f.c.length)).sum
  | [], _, h => by simp at h
  | g :: fs, f, h => by
    simp only [List.mem_cons] at h
    simp only [List.map_cons, List.sum_cons]
    rcases h with rfl | h
    · omega
    · have := sum_le_mem h; omega
theorem sum_insF (x : MF) : ∀ fs : List MF, ((insF x fs).map (fun f => f.c.length)).sum = x.c.length + (fs.map (fun f => f.c.length)).sum
  | [] => rfl
  | y :: fs => by
    unfold insF
    split
    · rfl
    · simp only [List.map_cons, List.sum_cons, sum_insF x fs]; omega

theorem pair_all {α : Type} {R : α → α → Prop} (hs : ∀ x y, R x y → R y x) (hr : ∀ x, R x x) : ∀ {l : List α}, l.Pairwise R → ∀ {x y}, x ∈ l → y ∈ l → R x y
  | [], _, _, _, h, _ => by simp at h
  | a :: l, hp, x, y, hx, hy => by
    have hp' := List.pairwise_cons.1 hp
    simp only [List.mem_cons] at hx hy
    rcases hx with rfl | hx <;> rcases hy with rfl | hy
    · exact hr _
    · exact hp'.1 y hy
    · exact hs _ _ (hp'.1 x hx)
    · exact pair_all hs hr hp'.2 hx hy
theorem filter_split {α : Type} (p : α → Bool) : ∀ l : List α, l.length = (l.filter p).length + (l.filter (fun a => !(p a))).length
  | [] => rfl
  | a :: l => by
    have := filter_split p l
    by_cases h : p a = true
    · simp [h, this]; omega
    · simp [h, this]; omega

namespace InvJ
variable {J : List (PL × CP)} {fs : List MF} {left : Int} {pend turn N : Nat} {r : RC}

theorem uniq (h : InvJ J fs left pend turn r N) {f g : MF} (hf : f ∈ fs) (hg : g ∈ fs) (e : f.name = g.name) : f = g := by
  refine pair_all (R := fun x y : MF => x.name = y.name → x = y) (l := fs) (fun _ _ hxy e => (hxy e.symm).symm) (fun _ _ => rfl) (h.sorted.imp (fun {a b} hab e => ?_)) hf hg e
  unfold Bef at hab
  rw [e, WideAt.bytes_irrefl] at hab
  simp at hab
theorem uniqB (h : InvJ J fs left pend turn r N) {f g : MF} (hf : f ∈ fs) (hg : g ∈ fs) (e : f.fb = g.fb) : f = g :=
  pair_all (R := fun x y : MF => x.fb = y.fb → x = y) (l := fs) (fun _ _ hxy e => (hxy e.symm).symm) (fun _ _ => rfl) (h.fbs.imp (fun hab e => absurd e hab)) hf hg e
theorem fbName (h : InvJ J fs left pend turn r N) {f : MF} (hf : f ∈ fs) {j : PL × CP} (hj : j ∈ J) : j.1.fb = f.fb ↔ j.2.name = f.name := by
  obtain ⟨g, hg, e1, e2⟩ := h.link j hj
  constructor
  · intro e
    have := h.uniqB hg hf (e1.trans e)
    rw [← e2, this]
  · intro e
    have := h.uniq hg hf (e2.trans e)
    rw [← e1, this]
theorem hasF (h : InvJ J fs left pend turn r N) (n : Nm) : r.has n = (fileOf fs n).isSome := by
  rw [Bool.eq_iff_iff, has_iff, fileOf_some, h.names]
theorem u8 (h : InvJ J fs left pend turn r N) (m : Nm) : U8 (r.all m) := allB_u8 h.pu8 (base_u8 h.lu8) m
theorem sizes (h : InvJ J fs left pend turn r N) : r.sizes = lens (fs.map MF.core) := by
  unfold RC.sizes
  rw [lensF]
  have e1 : r.L.map (fun f => (r.all f.name).length) = (r.L.map CF.name).map (fun n => (r.all n).length) := by rw [List.map_map]; rfl
  have e2 : fs.map (fun f => f.c.length) = (fs.map MF.name).map (fun n => (r.all n).length) := by
    rw [List.map_map]
    refine List.map_congr_left (fun f hf => ?_)
    simp only [Function.comp]
    rw [h.con f hf]
  rw [e1, e2, h.names]
theorem leftE (h : InvJ J fs left pend turn r N) : left = r.left := by
  have := h.room
  unfold RC.left
  rw [h.sizes]
  omega
theorem clen (h : InvJ J fs left pend turn r N) {f : MF} (hf : f ∈ fs) : (f.c.length : Int) + left ≤ r.most := by
  have h1 := sum_le_mem hf
  have h2 := h.room
  rw [lensF] at h2
  omega
theorem clen' (h : InvJ J fs left pend turn r N) {f : MF} (hf : f ∈ fs) : f.c.length ≤ 4194304 := by
  have h1 := h.clen hf
  have h2 := h.left0
  have h3 := h.most
  omega
theorem left1 (h : InvJ J fs left pend turn r N) : left ≤ 4194304 := by
  have h1 := h.room
  have h3 := h.most
  omega
theorem wlen (h : InvJ J fs left pend turn r N) {f : MF} (hf : f ∈ fs) : f.ws.length ≤ pend := by
  rw [h.ws f hf, h.pend, List.length_map]
  exact List.length_filter_le _ _
theorem noname (h : InvJ J fs left pend turn r N) {n : Nm} (hf : fileOf fs n = none) : ∀ p ∈ r.P, p.name ≠ n := by
  intro p hp e
  rw [h.P] at hp
  obtain ⟨j, hj, rfl⟩ := List.mem_map.1 hp
  obtain ⟨f, hf', e1, e2⟩ := h.link j hj
  exact fileOf_none hf f hf' (e2.trans e)
theorem notin (h : InvJ J fs left pend turn r N) {n : Nm} (hf : fileOf fs n = none) : n ∉ r.L.map CF.name := by
  rw [h.names]
  intro hm
  have := fileOf_some.2 hm
  rw [hf] at this
  simp at this

theorem up_N (h : InvJ J fs left pend turn r N) {M : Nat} (hM : N ≤ M) : InvJ J fs left pend turn r M :=
  { h with turn := Nat.le_trans h.turn hM, len := Nat.le_trans h.len hM }

/-- Create. -/
theorem create (h : InvJ J fs left pend turn r N) {n : Nm} (hlen : n.length ≤ maxLen) (hf : fileOf fs n = none) (hl : fs.length < 4096) {fb : Nat} (hfb : ∀ f ∈ fs, f.fb ≠ fb) :
    InvJ J (insF (blank n fb) fs) left pend turn { r with L := insC ⟨n, []⟩ r.L } N := by
  have hnm := fileOf_none hf
  have hb : base (insC ⟨n, []⟩ r.L) = base r.L := by
    rw [base_ins (x := ⟨n, []⟩) (h.notin hf)]
    funext m
    by_cases hm : m = n
    · subst hm; rw [upd_same, base_off (h.notin hf)]
    · rw [upd_off _ _ hm]
  have hal : ∀ m, RC.all { r with L := insC ⟨n, []⟩ r.L } m = r.all m := fun m => by unfold RC.all; simp only; rw [hb]
  refine { h with
    ws := fun f hf' => ?_, link := fun j hj => ?_, names := ?_, cov := ?_, con := fun f hf' => ?_, room := ?_, files := ?_, nm := fun f hf' => ?_, sorted := sorted_insF (x := blank n fb) hnm h.sorted, fbs := ?_, lu8 := fun f hf' => ?_ }
  · rcases mem_insF.1 hf' with rfl | hf'
    · have : J.filter (fun j => j.2.name == (blank n fb).name) = [] := by
        rw [List.filter_eq_nil_iff]
        intro j hj
        have := h.noname hf j.2 (by rw [h.P]; exact List.mem_map.2 ⟨j, hj, rfl⟩)
        simpa [blank] using this
      rw [this]; rfl
    · exact h.ws f hf'
  · obtain ⟨f, hf', e⟩ := h.link j hj
    exact ⟨f, mem_insF.2 (.inr hf'), e⟩
  · exact names_ins (x := ⟨n, []⟩) (f := blank n fb) rfl h.names hnm
  · simp only; rw [hb]; exact h.cov
  · rw [hal]
    rcases mem_insF.1 hf' with rfl | hf'
    · unfold RC.all
      rw [show (blank n fb).name = n from rfl, allB_off (h.noname hf), base_off (h.notin hf)]
      rfl
    · exact h.con f hf'
  · rw [lensF, sum_insF, ← lensF]
    have := h.room
    simpa [blank] using this
  · rw [length_insF]; omega
  · rcases mem_insF.1 hf' with rfl | hf'
    · exact hlen
    · exact h.nm f hf'
  · exact pair_insF (R := fun f g : MF => f.fb ≠ g.fb) (fun _ _ e e' => e e'.symm) (fun y hy e => hfb y hy e.symm) h.fbs
  · rcases mem_insC.1 hf' with rfl | hf'
    · intro x hx; simp at hx
    · exact h.lu8 f hf'

/-- Write. -/
theorem write {l rr : List MF} {f : MF} (h : InvJ J (l ++ f :: rr) left pend turn r N) (hd : r.down = false) {k : Nat} {b : By} (hk : k ≤ f.c.length) (hu : U8 b) (hroom : (b.length : Int) - ((f.c.length : Int) - k) ≤ left) (cov cv pv : Value) :
    InvJ (J ++ [(⟨f.fb, ⟨⟨turn + 1, k, b.length, (f.c.drop k).take b.length⟩, cov⟩⟩, ⟨f.name, k, b⟩)]) (l ++ written f (turn + 1) k b cov cv pv :: rr) (left - max ((b.length : Int) - ((f.c.length : Int) - k)) 0) (pend + 1) (turn + 1) { r with P := r.P ++ [⟨f.name, k, b⟩] } (N + 1) := by
  have hfm : f ∈ l ++ f :: rr := by simp
  have hall : ∀ m, RC.all { r with P := r.P ++ [⟨f.name, k, b⟩] } m = one (r.all) ⟨f.name, k, b⟩ m := fun m => by
    unfold RC.all; simp only; rw [allB_snoc]
  have mem' : ∀ {g : MF}, g ∈ l ++ written f (turn + 1) k b cov cv pv :: rr → g = written f (turn + 1) k b cov cv pv ∨ (g ∈ l ++ f :: rr ∧ g.name ≠ f.name) := by
    intro g hg
    have ho := names_off h.sorted
    simp only [List.mem_append, List.mem_cons] at hg
    rcases hg with hg | rfl | hg
    · exact .inr ⟨by simp [hg], ho g (by simp [hg])⟩
    · exact .inl rfl
    · exact .inr ⟨by simp [hg], ho g (by simp [hg])⟩
  have back : ∀ {g : MF}, g ∈ l ++ f :: rr → ∃ g' ∈ l ++ written f (turn + 1) k b cov cv pv :: rr, g'.fb = g.fb ∧ g'.name = g.name := by
    intro g hg
    simp only [List.mem_append, List.mem_cons] at hg
    rcases hg with hg | rfl | hg
    · exact ⟨g, by simp [hg], rfl, rfl⟩
    · exact ⟨written g (turn + 1) k b cov cv pv, by simp, rfl, rfl⟩
    · exact ⟨g, by simp [hg], rfl, rfl⟩
  refine { h with P := ?_, ws := fun g hg => ?_, link := fun j hj => ?_, rise := ?_, last := fun j hj => ?_, names := ?_, cov := ?_, con := fun g hg => ?_, pend := ?_, room := ?_, left0 := ?_, files := ?_, nm := fun g hg => ?_, sorted := ?_, fbs := ?_, pu8 := fun p hp => ?_, down := fun e => ?_, turn := ?_, len := ?_ }
  · simp [h.P]
  · rcases mem' hg with rfl | ⟨hg, hne⟩
    · show f.ws ++ [_] = _
      rw [List.filter_append, List.map_append, h.ws f hfm]
      simp [written]
    · rw [List.filter_append, List.map_append, ← h.ws g hg]
      have : ¬ f.name = g.name := fun e => hne e.symm
      simp [this]
  · simp only [List.mem_append, List.mem_singleton] at hj
    rcases hj with hj | rfl
    · obtain ⟨g, hg, e1, e2⟩ := h.link j hj
      obtain ⟨g', hg', e3, e4⟩ := back hg
      exact ⟨g', hg', e3.trans e1, e4.trans e2⟩
    · exact ⟨written f (turn + 1) k b cov cv pv, by simp, rfl, rfl⟩
  · rw [List.pairwise_append]
    refine ⟨h.rise, by simp, fun a ha c hc => ?_⟩
    simp only [List.mem_singleton] at hc
    subst hc
    have := h.last a ha
    simp only
    omega
  · simp only [List.mem_append, List.mem_singleton] at hj
    rcases hj with hj | rfl
    · have := h.last j hj; omega
    · exact Nat.le_refl _
  · rw [h.names]; simp [written]
  · simp only
    rw [cov_append]
    refine ⟨h.cov, ⟨rfl, rfl, ?_, ?_⟩, trivial⟩
    · rw [← h.P]; show k ≤ (r.all f.name).length; rw [← h.con f hfm]; exact hk
    · rw [← h.P]; show _ = ((r.all f.name).drop k).take b.length; rw [← h.con f hfm]
  · rw [hall]
    rcases mem' hg with rfl | ⟨hg, hne⟩
    · show putL f.c k b = _
      rw [show (written f (turn + 1) k b cov cv pv).name = (⟨f.name, k, b⟩ : CP).name from rfl, one_same]
      rw [h.con f hfm]
    · rw [one_off _ hne]; exact h.con g hg
  · rw [h.pend]; simp
  · have h1 := h.room
    rw [lensF] at h1 ⊢
    have e : (written f (turn + 1) k b cov cv pv).c.length = max f.c.length (k + b.length) := putL_length hk
    simp only [List.map_append, List.map_cons, List.sum_append, List.sum_cons, e] at h1 ⊢
    omega
  · have := h.left0; omega
  · have := h.files; simpa using this
  · rcases mem' hg with rfl | ⟨hg, _⟩
    · exact h.nm f hfm
    · exact h.nm g hg
  · have hs := h.sorted
    rw [List.pairwise_append, List.pairwise_cons] at hs ⊢
    refine ⟨hs.1, ⟨fun g hg => hs.2.1.1 g hg, hs.2.1.2⟩, fun g hg x hx => ?_⟩
    simp only [List.mem_cons] at hx
    rcases hx with rfl | hx
    · exact hs.2.2 g hg f (by simp)
    · exact hs.2.2 g hg x (by simp [hx])
  · have hs := h.fbs
    rw [List.pairwise_append, List.pairwise_cons] at hs ⊢
    refine ⟨hs.1, ⟨fun g hg => hs.2.1.1 g hg, hs.2.1.2⟩, fun g hg x hx => ?_⟩
    simp only [List.mem_cons] at hx
    rcases hx with rfl | hx
    · exact hs.2.2 g hg f (by simp)
    · exact hs.2.2 g hg x (by simp [hx])
  · simp only [List.mem_append, List.mem_singleton] at hp
    rcases hp with hp | rfl
    · exact h.pu8 p hp
    · exact hu
  · simp only at e; rw [hd] at e; simp at e
  · have := h.turn; omega
  · have := h.len; simp; omega

/-- Sync and Cut: a file's pending writes are gone, and its bytes sure. -/
theorem settle {l rr : List MF} {f f' : MF} (h : InvJ J (l ++ f :: rr) left pend turn r N) (hd : r.down = false) (e1 : f'.name = f.name) (e2 : f'.fb = f.fb) (e3 : f'.ws = []) (hu : U8 f'.c) (hc : f'.c.length ≤ f.c.length) :
    InvJ (J.filter (fun j => !(j.2.name == f.name))) (l ++ f' :: rr) (left + ((f.c.length : Int) - f'.c.length)) (pend - f.ws.length) turn { r with L := setC r.L f.name f'.c, P := offP r.P f.name } N := by
  have hfm : f ∈ l ++ f :: rr := by simp
  have hin : f.name ∈ r.L.map CF.name := by rw [h.names]; exact List.mem_map.2 ⟨f, hfm, rfl⟩
  have mem' : ∀ {g : MF}, g ∈ l ++ f' :: rr → g = f' ∨ (g ∈ l ++ f :: rr ∧ g.name ≠ f.name) := by
    intro g hg
    have ho := names_off h.sorted
    simp only [List.mem_append, List.mem_cons] at hg
    rcases hg with hg | rfl | hg
    · exact .inr ⟨by simp [hg], ho g (by simp [hg])⟩
    · exact .inl rfl
    · exact .inr ⟨by simp [hg], ho g (by simp [hg])⟩
  have hlen : J.length = (J.filter (fun j => j.2.name == f.name)).length + (J.filter (fun j => !(j.2.name == f.name))).length := by
    exact filter_split _ J
  have hwl : f.ws.length = (J.filter (fun j => j.2.name == f.name)).length := by rw [h.ws f hfm]; simp
  refine { h with P := ?_, ws := fun g hg => ?_, link := fun j hj => ?_, rise := h.rise.filter _, last := fun j hj => h.last j (List.mem_filter.1 hj).1, names := ?_, cov := ?_, con := fun g hg => ?_, pend := ?_, room := ?_, left0 := ?_, files := ?_, nm := fun g hg => ?_, sorted := ?_, fbs := ?_, lu8 := fun g hg => ?_, pu8 := fun p hp => h.pu8 p (List.mem_filter.1 hp).1, down := fun e => ?_, len := ?_ }
  · simp only [offP]; rw [h.P, List.filter_map]; rfl
  · rcases mem' hg with rfl | ⟨hg, hne⟩
    · rw [e3, e1, List.filter_filter]
      have : J.filter (fun a => (a.2.name == f.name) && !(a.2.name == f.name)) = [] := by
        rw [List.filter_eq_nil_iff]; intro j _; simp
      rw [this]; rfl
    · rw [h.ws g hg, List.filter_filter]
      congr 1
      refine List.filter_congr (fun j _ => ?_)
      by_cases e : j.2.name = g.name
      · have : ¬ g.name = f.name := hne
        simp [e, this]
      · simp [e]
  · obtain ⟨hj, hne⟩ := List.mem_filter.1 hj
    obtain ⟨g, hg, a1, a2⟩ := h.link j hj
    have hgn : g.name ≠ f.name := by rw [a2]; simpa using hne
    simp only [List.mem_append, List.mem_cons] at hg
    rcases hg with hg | rfl | hg
    · exact ⟨g, by simp [hg], a1, a2⟩
    · exact absurd rfl hgn
    · exact ⟨g, by simp [hg], a1, a2⟩
  · simp only [setC_names]; rw [h.names]; simp [e1]
  · simp only
    rw [base_set hin]
    exact cov_filter (q := fun m => !(m == f.name)) (fun m hm => (upd_off _ _ (by simpa using hm)).symm) h.cov
  · unfold RC.all
    simp only
    rw [base_set hin]
    rcases mem' hg with rfl | ⟨hg, hne⟩
    · rw [e1, allB_off (fun p hp => by simpa using (List.mem_filter.1 hp).2), upd_same]
    · rw [← allB_offP (B := base r.L) (fun m hm => (upd_off _ _ hm).symm) hne]
      exact h.con g hg
  · rw [h.pend, hwl]; omega
  · have h1 := h.room
    rw [lensF] at h1 ⊢
    simp only [List.map_append, List.map_cons, List.sum_append, List.sum_cons] at h1 ⊢
    omega
  · have := h.left0; omega
  · have := h.files; simpa using this
  · rcases mem' hg with rfl | ⟨hg, _⟩
    · rw [e1]; exact h.nm f hfm
    · exact h.nm g hg
  · have hs := h.sorted
    rw [List.pairwise_append, List.pairwise_cons] at hs ⊢
    refine ⟨hs.1, ⟨fun g hg => by have := hs.2.1.1 g hg; unfold Bef at *; rw [e1]; exact this, hs.2.1.2⟩, fun g hg x hx => ?_⟩
    simp only [List.mem_cons] at hx
    rcases hx with rfl | hx
    · have := hs.2.2 g hg f (by simp); unfold Bef at *; rw [e1]; exact this
    · exact hs.2.2 g hg x (by simp [hx])
  · have hs := h.fbs
    rw [List.pairwise_append, List.pairwise_cons] at hs ⊢
    refine ⟨hs.1, ⟨fun g hg => by rw [e2]; exact hs.2.1.1 g hg, hs.2.1.2⟩, fun g hg x hx => ?_⟩
    simp only [List.mem_cons] at hx
    rcases hx with rfl | hx
    · rw [e2]; exact hs.2.2 g hg f (by simp)
    · exact hs.2.2 g hg x (by simp [hx])
  · simp only [setC, List.mem_map] at hg
    obtain ⟨x, hx, rfl⟩ := hg
    split
    · exact hu
    · exact h.lu8 x hx
  · simp only at e; rw [hd] at e; simp at e
  · have := h.len; omega

/-- Remove. -/
theorem remove (h : InvJ J fs left pend turn r N) (hd : r.down = false) (n : Nm) :
    InvJ (J.filter (fun j => !(j.2.name == n))) (dropF fs n) (left + (goneC fs n : Nat)) (pend - goneW fs n) turn { r with L := offL r.L n, P := offP r.P n } N := by
  have mem' : ∀ {g : MF}, g ∈ dropF fs n → g ∈ fs ∧ g.name ≠ n := by
    intro g hg
    obtain ⟨a, b⟩ := List.mem_filter.1 hg
    exact ⟨a, by simpa using b⟩
  have hlen : J.length = (J.filter (fun j => j.2.name == n)).length + (J.filter (fun j => !(j.2.name == n))).length := by
    exact filter_split _ J
  have hwl : goneW fs n = (J.filter (fun j => j.2.name == n)).length := by
    unfold goneW
    cases hf : fileOf fs n with
    | none =>
      have : J.filter (fun j => j.2.name == n) = [] := by
        rw [List.filter_eq_nil_iff]
        intro j hj
        have := h.noname hf j.2 (by rw [h.P]; exact List.mem_map.2 ⟨j, hj, rfl⟩)
        simpa using this
      rw [this]; rfl
    | some f =>
      obtain ⟨hfm, hfn⟩ := mem_of_fileOf hf
      simp only
      rw [h.ws f hfm, hfn]; simp
  have hcl : (fs.map (fun f => f.c.length)).sum = goneC fs n + ((dropF fs n).map (fun f => f.c.length)).sum := by
    unfold goneC
    cases hf : fileOf fs n with
    | none => rw [dropF_off (fileOf_none hf)]; simp
    | some f =>
      obtain ⟨hfn, l, rr, hs⟩ := fileOf_split hf
      subst hfn
      have := h.sorted
      subst hs
      rw [dropF_split this]
      simp only [List.map_append, List.map_cons, List.sum_append, List.sum_cons]
      omega
  refine { h with P := ?_, ws := fun g hg => ?_, link := fun j hj => ?_, rise := h.rise.filter _, last := fun j hj => h.last j (List.mem_filter.1 hj).1, names := names_off2 h.names n, cov := ?_, con := fun g hg => ?_, pend := ?_, room := ?_, left0 := ?_, files := ?_, nm := fun g hg => h.nm g (mem' hg).1, sorted := h.sorted.filter _, fbs := h.fbs.filter _, lu8 := fun g hg => h.lu8 g (List.mem_filter.1 hg).1, pu8 := fun p hp => h.pu8 p (List.mem_filter.1 hp).1, down := fun e => ?_, len := ?_ }
  · simp only [offP]; rw [h.P, List.filter_map]; rfl
  · obtain ⟨hg, hne⟩ := mem' hg
    rw [h.ws g hg, List.filter_filter]
    congr 1
    refine List.filter_congr (fun j _ => ?_)
    by_cases e : j.2.name = g.name
    · simp [e, hne]
    · simp [e]
  · obtain ⟨hj, hne⟩ := List.mem_filter.1 hj
    obtain ⟨g, hg, a1, a2⟩ := h.link j hj
    refine ⟨g, List.mem_filter.2 ⟨hg, ?_⟩, a1, a2⟩
    rw [a2]; exact hne
  · simp only
    rw [base_offL]
    exact cov_filter (q := fun m => !(m == n)) (fun m hm => (upd_off _ _ (by simpa using hm)).symm) h.cov
  · obtain ⟨hg, hne⟩ := mem' hg
    unfold RC.all
    simp only
    rw [base_offL, ← allB_offP (B := base r.L) (fun m hm => (upd_off _ _ hm).symm) hne]
    exact h.con g hg
  · rw [h.pend, hwl]; omega
  · have h1 := h.room
    rw [lensF] at h1 ⊢
    simp only
    omega
  · have := h.left0; omega
  · have := h.files
    have h2 : (dropF fs n).length ≤ fs.length := List.length_filter_le _ _
    omega
  · simp only at e; rw [hd] at e; simp at e
  · have := h.len; omega

/-- Rename, where no file has the new name. -/
theorem rename (h : InvJ J fs left pend turn r N) (hd : r.down = false) {n t : Nm} (hnt : n ≠ t) {f : MF} (hf : fileOf fs n = some f) (ht : fileOf fs t = none) (hlen : t.length ≤ maxLen) :
    InvJ (J.map (fun j => (j.1, ren n t j.2))) (insF { f with name := t } (dropF fs n)) left pend turn { r with L := insC ⟨t, base r.L n⟩ (offL r.L n), P := r.P.map (ren n t) } N := by
  obtain ⟨hfm, hfn⟩ := mem_of_fileOf hf
  have hnot := fileOf_none ht
  have hpt : ∀ j ∈ J, j.2.name ≠ t := fun j hj => h.noname ht j.2 (by rw [h.P]; exact List.mem_map.2 ⟨j, hj, rfl⟩)
  have hpt' : ∀ p ∈ r.P, p.name ≠ t := h.noname ht
  have mem' : ∀ {g : MF}, g ∈ dropF fs n → g ∈ fs ∧ g.name ≠ n := by
    intro g hg
    obtain ⟨a, b⟩ := List.mem_filter.1 hg
    exact ⟨a, by simpa using b⟩
  have hoff : t ∉ (offL r.L n).map CF.name := by
    intro hm
    obtain ⟨x, hx, e⟩ := List.mem_map.1 hm
    exact h.notin ht (List.mem_map.2 ⟨x, (List.mem_filter.1 hx).1, e⟩)
  have hbase : base (insC ⟨t, base r.L n⟩ (offL r.L n)) = upd (upd (base r.L) n []) t (base r.L n) := by
    rw [base_ins (x := ⟨t, base r.L n⟩) hoff, base_offL]
  have hb1 : upd (upd (base r.L) n []) t (base r.L n) t = base r.L n := upd_same _ _ _
  have hb2 : ∀ m, m ≠ n → m ≠ t → upd (upd (base r.L) n []) t (base r.L n) m = base r.L m := fun m h1 h2 => by rw [upd_off _ _ h2, upd_off _ _ h1]
  have hall := allB_ren hnt (ps := r.P) (B := base r.L) hpt' hb1 hb2
  have hnd : ∀ g ∈ dropF fs n, g.name ≠ ({ f with name := t } : MF).name := fun g hg => hnot g (mem' hg).1
  refine { h with P := ?_, ws := fun g hg => ?_, link := fun j hj => ?_, rise := ?_, last := fun j hj => ?_, names := ?_, cov := ?_, con := fun g hg => ?_, pend := ?_, room := ?_, files := ?_, nm := fun g hg => ?_, sorted := ?_, fbs := ?_, lu8 := fun g hg => ?_, pu8 := fun p hp => ?_, down := fun e => ?_, len := ?_ }
  · simp only; rw [h.P, List.map_map, List.map_map]; rfl
  · rcases mem_insF.1 hg with rfl | hg
    · show f.ws = List.map (fun j : PL × CP => j.1.x) (List.filter (fun j : PL × CP => j.2.name == t) _)
      rw [h.ws f hfm, List.filter_map, List.map_map, hfn]
      show _ = List.map (fun j : PL × CP => j.1.x) _
      congr 1
      refine List.filter_congr (fun j hj => ?_)
      have := hpt j hj
      by_cases e : j.2.name = n
      · simp [ren, e]
      · simp only [Function.comp, ren, e, if_false]
        rw [beq_eq_false_iff_ne.2 e, beq_eq_false_iff_ne.2 this]
    · obtain ⟨hg, hne⟩ := mem' hg
      rw [h.ws g hg, List.filter_map, List.map_map]
      show _ = List.map (fun j : PL × CP => j.1.x) _
      congr 1
      refine List.filter_congr (fun j hj => ?_)
      have hgt := hnot g hg
      by_cases e : j.2.name = n
      · have h1 : ¬ n = g.name := fun e => hne e.symm
        have h2 : ¬ t = g.name := fun e => hgt e.symm
        simp only [Function.comp, ren, e, if_true]
        rw [beq_eq_false_iff_ne.2 h1, beq_eq_false_iff_ne.2 h2]
      · simp [ren, e]
  · obtain ⟨i, hi, rfl⟩ := List.mem_map.1 hj
    obtain ⟨g, hg, a1, a2⟩ := h.link i hi
    by_cases e : i.2.name = n
    · have : g = f := h.uniq hg hfm (by rw [a2, e, hfn])
      subst this
      exact ⟨{ g with name := t }, mem_insF.2 (.inl rfl), a1, by simp [ren, e]⟩
    · exact ⟨g, mem_insF.2 (.inr (List.mem_filter.2 ⟨hg, by simpa [a2] using e⟩)), a1, by simp [ren, e, a2]⟩
  · rw [List.pairwise_map]; exact h.rise
  · obtain ⟨i, hi, rfl⟩ := List.mem_map.1 hj
    exact h.last i hi
  · exact names_ins (x := ⟨t, base r.L n⟩) (f := { f with name := t }) rfl (names_off2 h.names n) hnd
  · simp only; rw [hbase]
    exact cov_ren hnt hpt hb1 hb2 h.cov
  · unfold RC.all
    simp only
    rw [hbase]
    rcases mem_insF.1 hg with rfl | hg
    · show f.c = _
      rw [show ({ f with name := t } : MF).name = t from rfl, hall.1, h.con f hfm, hfn]; rfl
    · obtain ⟨hg, hne⟩ := mem' hg
      rw [hall.2 g.name hne (hnot g hg)]
      exact h.con g hg
  · rw [h.pend]; simp
  · have h1 := h.room
    rw [lensF] at h1 ⊢
    rw [sum_insF]
    obtain ⟨_, l, rr, hs⟩ := fileOf_split hf
    have hso := h.sorted
    subst hs
    rw [← hfn, dropF_split hso]
    simp only [List.map_append, List.map_cons, List.sum_append, List.sum_cons] at h1 ⊢
    omega
  · have h0 := h.files
    rw [length_insF]
    obtain ⟨_, l, rr, hs⟩ := fileOf_split hf
    have hso := h.sorted
    subst hs
    rw [← hfn, dropF_split hso]
    simp at h0 ⊢
    omega
  · rcases mem_insF.1 hg with rfl | hg
    · exact hlen
    · exact h.nm g (mem' hg).1
  · exact sorted_insF hnd (h.sorted.filter _)
  · refine pair_insF (R := fun f g : MF => f.fb ≠ g.fb) (fun _ _ e e' => e e'.symm) (fun y hy e => ?_) (h.fbs.filter _)
    obtain ⟨hy, hne⟩ := mem' hy
    have := h.uniqB hfm hy e
    exact hne (by rw [← this, hfn])
  · rcases mem_insC.1 hg with rfl | hg
    · exact base_u8 h.lu8 n
    · exact h.lu8 g (List.mem_filter.1 hg).1
  · obtain ⟨q, hq, rfl⟩ := List.mem_map.1 hp
    have := h.pu8 q hq
    unfold ren
    split
    · exact this
    · exact this
  · simp only at e; rw [hd] at e; simp at e
  · have := h.len; simpa using this
end InvJ
end Go.Proofs.YtikpckmlnhcddaaGreat

/-
  Crash and Sure of a store of the program, held against the document's; the conditions of the reference's calls hold. No conditions.
-/
namespace Go.Proofs.YtikpckmlnhcddaaGreat
open Go.RowKit Go.Maps

theorem perm_sorted {α : Type} {k : α → Nat} : ∀ {l m : List α}, l.Perm m → l.Pairwise (fun a b => k a ≤ k b) → m.Pairwise (fun a b => k a < k b) → l = m
  | [], m, hp, _, _ => (List.nil_perm.1 hp).symm
  | a :: l, [], hp, _, _ => hp.eq_nil
  | a :: l, b :: m, hp, hl, hm => by
    have hl' := List.pairwise_cons.1 hl
    have hm' := List.pairwise_cons.1 hm
    have hab : a = b := by
      have h1 : a ∈ b :: m := hp.subset (by simp)
      have h2 : b ∈ a :: l := hp.symm.subset (by simp)
      simp only [List.mem_cons] at h1 h2
      rcases h1 with h1 | h1
      · exact h1
      · rcases h2 with h2 | h2
        · exact h2.symm
        · have := hm'.1 a h1
          have := hl'.1 b h2
          omega
    subst hab
    rw [perm_sorted (List.perm_cons a |>.1 hp) hl'.2 hm'.2]

theorem flat_congr {α β : Type} {f g : α → List β} : ∀ {l : List α}, (∀ a ∈ l, f a = g a) → l.flatMap f = l.flatMap g
  | [], _ => rfl
  | a :: l, h => by rw [List.flatMap_cons, List.flatMap_cons, h a (by simp), flat_congr (fun b hb => h b (by simp [hb]))]

/-- What is placed of each file, together, is all that is pending. -/
theorem flat_filter {k : MF → Nat} : ∀ {fs : List MF} {J : List PL}, fs.Pairwise (fun f g => k f ≠ k g) → (∀ d ∈ J, ∃ f ∈ fs, k f = d.fb) → (fs.flatMap (fun f => J.filter (fun d => d.fb == k f))).Perm J
  | [], J, _, h => by
    cases J with
    | nil => simp
    | cons d J => obtain ⟨f, hf, _⟩ := h d (by simp); simp at hf
  | f :: fs, J, hp, h => by
    have hp' := List.pairwise_cons.1 hp
    simp only [List.flatMap_cons]
    have ih := flat_filter (k := k) (J := J.filter (fun d => !(d.fb == k f))) hp'.2 (fun d hd => by
      obtain ⟨hd, hne⟩ := List.mem_filter.1 hd
      obtain ⟨g, hg, e⟩ := h d hd
      simp only [List.mem_cons] at hg
      rcases hg with rfl | hg
      · simp [e] at hne
      · exact ⟨g, hg, e⟩)
    have e : fs.flatMap (fun g => (J.filter (fun d => !(d.fb == k f))).filter (fun d => d.fb == k g)) = fs.flatMap (fun g => J.filter (fun d => d.fb == k g)) := by
      refine flat_congr (fun g hg => ?_)
      rw [List.filter_filter]
      refine List.filter_congr (fun d _ => ?_)
      have := hp'.1 g hg
      by_cases e : d.fb = k g
      · have h1 : ¬ k g = k f := fun e => this e.symm
        simp [e, h1]
      · simp [e]
    rw [e] at ih
    exact (List.Perm.append_left _ ih).trans (List.filter_append_perm (fun d : PL => d.fb == k f) J)

namespace InvJ
variable {J : List (PL × CP)} {fs : List MF} {left : Int} {pend turn N : Nat} {r : RC}

theorem placed (h : InvJ J fs left pend turn r N) : (fs.flatMap placedOf).Perm (J.map (·.1)) := by
  have e : fs.flatMap placedOf = fs.flatMap (fun f => (J.map (·.1)).filter (fun d => d.fb == f.fb)) := by
    refine flat_congr (fun f hf => ?_)
    unfold placedOf
    rw [h.ws f hf, List.filter_map, List.map_map]
    have e1 : J.filter ((fun d : PL => d.fb == f.fb) ∘ (fun x : PL × CP => x.1)) = J.filter (fun j => j.2.name == f.name) := by
      refine List.filter_congr (fun j hj => ?_)
      have := h.fbName hf hj
      simp only [Function.comp]
      rw [Bool.eq_iff_iff]
      simpa using this
    rw [e1]
    refine List.map_congr_left (fun j hj => ?_)
    obtain ⟨hj, hn⟩ := List.mem_filter.1 hj
    have := (h.fbName hf hj).2 (by simpa using hn)
    simp only [Function.comp]
    rw [← this]
  rw [e]
  refine flat_filter (k := MF.fb) h.fbs (fun d hd => ?_)
  obtain ⟨j, hj, rfl⟩ := List.mem_map.1 hd
  obtain ⟨f, hf, e, _⟩ := h.link j hj
  exact ⟨f, hf, e⟩
theorem placed_len (h : InvJ J fs left pend turn r N) : (fs.flatMap placedOf).length = pend := by
  rw [h.placed.length_eq, h.pend]; simp
theorem placed_eq (h : InvJ J fs left pend turn r N) {ds : List PL} (h1 : ds.Perm (fs.flatMap placedOf)) (h2 : ds.Pairwise (fun a b => a.x.p.turn ≤ b.x.p.turn)) : ds = J.map (·.1) := by
  refine perm_sorted (k := fun d : PL => d.x.p.turn) (h1.trans h.placed) h2 ?_
  rw [List.pairwise_map]
  exact h.rise

/-- With the last k pending writes taken back. -/
theorem undoneE (h : InvJ J fs left pend turn r N) : ∀ k, k ≤ J.length → undone (fs.map MF.core) (J.map (·.1)) k = fs.map (fun f => { f.core with c := allB (base r.L) ((J.take (J.length - k)).map (·.2)) f.name })
  | 0, _ => by
    unfold undone
    refine List.map_congr_left (fun f hf => ?_)
    rw [Nat.sub_zero, List.take_length, ← h.P]
    have := h.con f hf
    unfold RC.all at this
    rw [← this]
    rfl
  | k + 1, hk => by
    unfold undone
    rw [h.undoneE k (by omega)]
    unfold undo
    rw [List.map_map]
    refine List.map_congr_left (fun f hf => ?_)
    simp only [Function.comp, List.length_map]
    have hi : J.length - 1 - k < J.length := by omega
    have ej : (J.map (·.1))[J.length - 1 - k]! = J[J.length - 1 - k].1 := by
      rw [getElem!_pos _ _ (by simpa using hi)]; simp
    rw [ej]
    have ht : J.take (J.length - k) = J.take (J.length - (k + 1)) ++ [J[J.length - 1 - k]] := by
      have e1 : J.length - k = (J.length - 1 - k) + 1 := by omega
      have e2 : J.length - (k + 1) = J.length - 1 - k := by omega
      rw [e1, e2, List.take_succ_eq_append_getElem hi]
    have hc := cov_get h.cov hi
    have hjm : J[J.length - 1 - k] ∈ J := List.getElem_mem _
    have hfn := h.fbName hf hjm
    have e2 : J.length - 1 - k = J.length - (k + 1) := by omega
    rw [show J.take (J.length - 1 - k) = J.take (J.length - (k + 1)) by rw [e2]] at hc
    rw [ht, List.map_append, List.map_singleton, allB_snoc]
    generalize J[J.length - 1 - k] = j at *
    by_cases e : f.core.fb = j.1.fb
    · have en : j.2.name = f.name := hfn.1 e.symm
      rw [if_pos e]
      congr 1
      rw [← en, one_same, ← hc.beg, back_put hc.size (by rw [hc.cl, hc.beg]) (by rw [hc.beg]; exact hc.spot) (Nat.zero_le _)]
      simp [putL]
    · have en : f.name ≠ j.2.name := fun e' => e (hfn.2 e'.symm).symm
      rw [if_neg e, one_off _ en]
theorem lenAt (h : InvJ J fs left pend turn r N) {f : MF} (hf : f ∈ fs) (k : Nat) : (allB (base r.L) ((J.take k).map (·.2)) f.name).length ≤ 4194304 := by
  have h1 := h.clen' hf
  rw [h.con f hf] at h1
  unfold RC.all at h1
  have e : J = J.take k ++ J.drop k := (List.take_append_drop k J).symm
  rw [h.P, e, List.map_append, allB_append] at h1
  exact Nat.le_trans (len_mono _ _ _) h1
theorem safe (h : InvJ J fs left pend turn r N) {k : Nat} (hk : k < J.length) : SafeAt (undone (fs.map MF.core) (J.map (·.1)) k) ((J.map (·.1))[(J.map (·.1)).length - 1 - k]!) := by
  rw [h.undoneE k (by omega)]
  have hi : J.length - 1 - k < J.length := by omega
  have ej : (J.map (·.1))[(J.map (·.1)).length - 1 - k]! = J[J.length - 1 - k].1 := by
    rw [List.length_map, getElem!_pos _ _ (by simpa using hi)]; simp
  rw [ej]
  have hjm : J[J.length - 1 - k] ∈ J := List.getElem_mem _
  obtain ⟨f, hf, e1, e2⟩ := h.link _ hjm
  have hc := cov_get h.cov hi
  have ht : J.take (J.length - k) = J.take (J.length - 1 - k) ++ [J[J.length - 1 - k]] := by
    have e1 : J.length - k = (J.length - 1 - k) + 1 := by omega
    rw [e1, List.take_succ_eq_append_getElem hi]
  refine ⟨_, List.mem_map.2 ⟨f, hf, rfl⟩, e1, ?_, ?_, h.lenAt hf _⟩
  · show _ ∈ f.ws
    rw [h.ws f hf]
    exact List.mem_map.2 ⟨_, List.mem_filter.2 ⟨hjm, by simp [e2]⟩, rfl⟩
  · simp only
    rw [ht, List.map_append, List.map_singleton, allB_snoc, e2, one_same, ← hc.beg]
    exact fits_put hc.size (by rw [hc.cl, hc.beg]) (by rw [hc.beg]; exact hc.spot) (allB_u8 (fun p hp => h.pu8 p (by
      rw [h.P]
      obtain ⟨j, hj, rfl⟩ := List.mem_map.1 hp
      exact List.mem_map.2 ⟨j, List.mem_of_mem_take hj, rfl⟩)) (base_u8 h.lu8) _)
/-- What a crash leaves. -/
theorem crashedE (h : InvJ J fs left pend turn r N) {kp : Nat} (hkp : kp ≤ J.length) (torn : Int) : crashed (fs.map MF.core) (J.map (·.1)) kp torn = fs.map (fun f => { f.core with c := allB (base r.L) (kept r.P kp torn) f.name }) := by
  unfold crashed
  rw [List.length_map]
  by_cases hlt : kp < J.length
  · rw [if_pos hlt, h.undoneE _ (by omega)]
    unfold undo
    rw [List.map_map]
    refine List.map_congr_left (fun f hf => ?_)
    simp only [Function.comp]
    have ej : (J.map (·.1))[kp]! = J[kp].1 := by
      rw [getElem!_pos _ _ (by simpa using hlt)]; simp
    rw [ej]
    have e1 : J.length - (J.length - 1 - kp) = kp + 1 := by omega
    rw [e1, List.take_succ_eq_append_getElem hlt, List.map_append, List.map_singleton, allB_snoc]
    have hc := cov_get h.cov hlt
    have hjm : J[kp] ∈ J := List.getElem_mem _
    have hfn := h.fbName hf hjm
    have ek : kept r.P kp torn = (J.take kp).map (·.2) ++ [{ J[kp].2 with b := J[kp].2.b.take ((mag torn).toNat % (J[kp].2.b.length + 1)) }] := by
      unfold kept
      have : (J.map (·.2)).drop kp = J[kp].2 :: (J.map (·.2)).drop (kp + 1) := by
        rw [List.drop_eq_getElem_cons (by simpa using hlt)]; simp
      rw [h.P, this, List.map_take]
      simp
    rw [ek, allB_snoc]
    generalize J[kp] = j at *
    by_cases e : f.core.fb = j.1.fb
    · have en : j.2.name = f.name := hfn.1 e.symm
      rw [if_pos e]
      simp only
      congr 1
      rw [← en, one_same, ← hc.beg, hc.size, back_put hc.size (by rw [hc.cl, hc.beg]) (by rw [hc.beg]; exact hc.spot) (by have := Nat.mod_lt (mag torn).toNat (show 0 < j.2.b.length + 1 by omega); omega)]
      unfold one
      simp only
      rw [upd_same, hc.beg]
    · have en : f.name ≠ j.2.name := fun e' => e (hfn.2 e'.symm).symm
      rw [if_neg e, one_off _ en, one_off _ (by exact en)]
  · obtain rfl : kp = J.length := by omega
    rw [if_neg hlt]
    refine List.map_congr_left (fun f hf => ?_)
    have ek : kept r.P J.length torn = r.P := by
      unfold kept
      have hl : r.P.length = J.length := by rw [h.P]; simp
      rw [← hl, List.take_length, List.drop_length]; simp
    rw [ek]
    have := h.con f hf
    unfold RC.all at this
    rw [← this]
    rfl

theorem crash (h : InvJ J fs left pend turn r N) (hd : r.down = false) {keep torn : Int} {hs : List MF} {left' : Int}
    (hc : hs.map MF.core = (crashed (fs.map MF.core) (J.map (·.1)) ((mag keep).toNat % (pend + 1)) torn).map (fun x => { x with ws := [] }))
    (hl : left' + (lens (crashed (fs.map MF.core) (J.map (·.1)) ((mag keep).toNat % (pend + 1)) torn) : Nat) = left + (lens (fs.map MF.core) : Nat)) (h0 : 0 ≤ left') : InvJ [] hs left' 0 turn (r.crash keep torn) N := by
  have hPl : r.P.length = pend := by rw [h.P, h.pend]; simp
  have hkp : (mag keep).toNat % (pend + 1) ≤ J.length := by
    have := Nat.mod_lt (mag keep).toNat (show 0 < pend + 1 by omega)
    rw [← h.pend]; omega
  rw [h.crashedE hkp torn] at hc hl
  unfold RC.crash
  rw [if_neg (by simp [hd]), hPl]
  generalize hK : kept r.P ((mag keep).toNat % (pend + 1)) torn = K at *
  rw [List.map_map] at hc
  have len : hs.length = fs.length := by have := congrArg List.length hc; simpa using this
  have get : ∀ i (hi : i < hs.length), hs[i].core = ⟨(fs[i]'(by omega)).name, (fs[i]'(by omega)).fb, allB (base r.L) K (fs[i]'(by omega)).name, []⟩ := fun i hi => by
    have := congrArg (fun l => l[i]?) hc
    simp only [List.getElem?_map] at this
    rw [List.getElem?_eq_getElem hi, List.getElem?_eq_getElem (by omega)] at this
    simpa [MF.core] using this
  have nms : hs.map MF.name = fs.map MF.name := by
    have := congrArg (fun l => l.map Core.name) hc
    simp only [List.map_map] at this
    exact this
  have fbs' : hs.map MF.fb = fs.map MF.fb := by
    have := congrArg (fun l => l.map Core.fb) hc
    simp only [List.map_map] at this
    exact this
  have mem' : ∀ {g : MF}, g ∈ hs → ∃ f ∈ fs, g.core = ⟨f.name, f.fb, allB (base r.L) K f.name, []⟩ := by
    intro g hg
    obtain ⟨i, hi, rfl⟩ := List.getElem_of_mem hg
    exact ⟨fs[i]'(by omega), List.getElem_mem _, get i hi⟩
  have ku8 : ∀ m, U8 (allB (base r.L) K m) := fun m => by
    refine allB_u8 (fun p hp => ?_) (base_u8 h.lu8) m
    rw [← hK] at hp
    unfold kept at hp
    simp only [List.mem_append, List.mem_map] at hp
    rcases hp with hp | ⟨q, hq, rfl⟩
    · exact h.pu8 p (List.mem_of_mem_take hp)
    · intro x hx
      exact h.pu8 q (List.mem_of_mem_drop (List.mem_of_mem_take hq)) x (List.mem_of_mem_take hx)
  have hbase : ∀ m, m ∈ r.L.map CF.name → base (r.L.map (fun f => { f with b := allB (base r.L) K f.name })) m = allB (base r.L) K m := by
    intro m hm
    have e : fileC (r.L.map (fun f => { f with b := allB (base r.L) K f.name })) m = (fileC r.L m).map (fun f => { f with b := allB (base r.L) K f.name }) := by
      unfold fileC
      rw [List.find?_map]
      rfl
    have e0 : base (r.L.map (fun f => { f with b := allB (base r.L) K f.name })) m = (match fileC (r.L.map (fun f => { f with b := allB (base r.L) K f.name })) m with | some f => f.b | none => []) := rfl
    rw [e0, e]
    cases hf : fileC r.L m with
    | none => exact absurd hm (fileC_none.1 hf)
    | some f =>
      have : f.name = m := by simpa using List.find?_some hf
      simp [this]
  have lh : lens (hs.map MF.core) = lens (fs.map (fun f => ({ f.core with c := allB (base r.L) K f.name } : Core))) := by
    rw [hc]
    unfold lens
    rw [List.map_map, List.map_map]
    rfl
  refine { P := rfl, ws := fun g hg => ?_, link := by simp, rise := by simp, last := by simp, names := ?_, cov := trivial, con := fun g hg => ?_, pend := rfl, room := ?_, left0 := h0, most := h.most, files := ?_, nm := fun g hg => ?_, sorted := ?_, fbs := ?_, lu8 := fun g hg => ?_, pu8 := by simp, down := fun _ => rfl, turn := h.turn, len := Nat.zero_le _ }
  · obtain ⟨f, _, e⟩ := mem' hg
    have := congrArg Core.ws e
    exact this
  · simp only [List.map_map]
    rw [nms, ← h.names]
    rfl
  · obtain ⟨f, hf, e⟩ := mem' hg
    have e1 : g.c = allB (base r.L) K f.name := congrArg Core.c e
    have e2 : g.name = f.name := congrArg Core.name e
    unfold RC.all
    simp only
    rw [allB_nil, e1, e2, hbase _ (by rw [h.names]; exact List.mem_map.2 ⟨f, hf, rfl⟩)]
  · rw [lh, hl]; exact h.room
  · rw [len]; exact h.files
  · obtain ⟨f, hf, e⟩ := mem' hg
    have e2 : g.name = f.name := congrArg Core.name e
    rw [e2]; exact h.nm f hf
  · have hso := h.sorted
    have q : (fs.map MF.name).Pairwise (fun a b => bytesBefore a b = true) := by rw [List.pairwise_map]; exact hso
    rw [← nms, List.pairwise_map] at q
    exact q
  · have hso := h.fbs
    have q : (fs.map MF.fb).Pairwise (fun a b => a ≠ b) := by rw [List.pairwise_map]; exact hso
    rw [← fbs', List.pairwise_map] at q
    exact q
  · obtain ⟨f, hf, rfl⟩ := List.mem_map.1 hg
    exact ku8 _

/-- What is sure of a file. -/
theorem sureAt (h : InvJ J fs left pend turn r N) {f : MF} (hf : f ∈ fs) : ∀ k, k ≤ f.ws.length → sureTo f.ws f.c k = allB (base r.L) (((J.filter (fun j => j.2.name == f.name)).take (f.ws.length - k)).map (·.2)) f.name := by
  have hws := h.ws f hf
  have hlen : f.ws.length = (J.filter (fun j => j.2.name == f.name)).length := by rw [hws]; simp
  have hcov : Cov (base r.L) (J.filter (fun j => j.2.name == f.name)) := cov_filter (q := fun m => m == f.name) (fun _ _ => rfl) h.cov
  have hnm : ∀ j ∈ J.filter (fun j => j.2.name == f.name), j.2.name = f.name := fun j hj => by simpa using (List.mem_filter.1 hj).2
  have hall : f.c = allB (base r.L) ((J.filter (fun j => j.2.name == f.name)).map (·.2)) f.name := by
    rw [h.con f hf]
    unfold RC.all
    rw [h.P, allB_congr (q := fun m => m == f.name) (fun _ _ => rfl) f.name (by simp), List.filter_map]
    rfl
  generalize J.filter (fun j => j.2.name == f.name) = K at *
  intro k
  induction k with
  | zero =>
    intro _
    unfold sureTo
    rw [Nat.sub_zero, hlen, List.take_length]
    exact hall
  | succ k ih =>
    intro hk
    unfold sureTo
    rw [ih (by omega)]
    have hi : f.ws.length - 1 - k < K.length := by omega
    have ew : f.ws[f.ws.length - 1 - k]! = K[f.ws.length - 1 - k].1.x := by
      rw [getElem!_pos _ _ (by omega)]
      simp only [hws, List.getElem_map, List.length_map]
    have ht : K.take (f.ws.length - k) = K.take (f.ws.length - (k + 1)) ++ [K[f.ws.length - 1 - k]] := by
      have e1 : f.ws.length - k = (f.ws.length - 1 - k) + 1 := by omega
      have e2 : f.ws.length - (k + 1) = f.ws.length - 1 - k := by omega
      rw [e1, e2, List.take_succ_eq_append_getElem hi]
    have hc := cov_get hcov hi
    have en := hnm _ (List.getElem_mem hi)
    have e2 : f.ws.length - 1 - k = f.ws.length - (k + 1) := by omega
    rw [show K.take (f.ws.length - 1 - k) = K.take (f.ws.length - (k + 1)) by rw [e2]] at hc
    rw [ew, ht, List.map_append, List.map_singleton, allB_snoc]
    generalize K[f.ws.length - 1 - k] = j at *
    rw [← en, one_same, ← hc.beg, back_put hc.size (by rw [hc.cl, hc.beg]) (by rw [hc.beg]; exact hc.spot) (Nat.zero_le _)]
    simp [putL]
theorem sure (h : InvJ J fs left pend turn r N) {f : MF} (hf : f ∈ fs) : sureTo f.ws f.c f.ws.length = base r.L f.name := by
  rw [h.sureAt hf _ (Nat.le_refl _)]
  simp [allB]
theorem sureFits (h : InvJ J fs left pend turn r N) {f : MF} (hf : f ∈ fs) {k : Nat} (hk : k < f.ws.length) : Fits (f.ws[f.ws.length - 1 - k]!).p (sureTo f.ws f.c k) := by
  rw [h.sureAt hf k (by omega)]
  have hws := h.ws f hf
  have hlen : f.ws.length = (J.filter (fun j => j.2.name == f.name)).length := by rw [hws]; simp
  have hcov : Cov (base r.L) (J.filter (fun j => j.2.name == f.name)) := cov_filter (q := fun m => m == f.name) (fun _ _ => rfl) h.cov
  have hnm : ∀ j ∈ J.filter (fun j => j.2.name == f.name), j.2.name = f.name := fun j hj => by simpa using (List.mem_filter.1 hj).2
  have hu : ∀ j ∈ J.filter (fun j => j.2.name == f.name), U8 j.2.b := fun j hj => h.pu8 _ (by rw [h.P]; exact List.mem_map.2 ⟨j, (List.mem_filter.1 hj).1, rfl⟩)
  generalize J.filter (fun j => j.2.name == f.name) = K at *
  have hi : f.ws.length - 1 - k < K.length := by omega
  have ew : f.ws[f.ws.length - 1 - k]! = K[f.ws.length - 1 - k].1.x := by
    rw [getElem!_pos _ _ (by omega)]
    simp only [hws, List.getElem_map, List.length_map]
  have ht : K.take (f.ws.length - k) = K.take (f.ws.length - 1 - k) ++ [K[f.ws.length - 1 - k]] := by
    have e1 : f.ws.length - k = (f.ws.length - 1 - k) + 1 := by omega
    rw [e1, List.take_succ_eq_append_getElem hi]
  have hc := cov_get hcov hi
  have en := hnm _ (List.getElem_mem hi)
  rw [ew, ht, List.map_append, List.map_singleton, allB_snoc]
  have hu' : ∀ m, U8 (allB (base r.L) ((K.take (f.ws.length - 1 - k)).map (·.2)) m) := allB_u8 (fun p hp => by
    obtain ⟨j, hj, rfl⟩ := List.mem_map.1 hp
    exact hu j (List.mem_of_mem_take hj)) (base_u8 h.lu8)
  generalize K[f.ws.length - 1 - k] = j at *
  rw [← en, one_same, ← hc.beg]
  exact fits_put hc.size (by rw [hc.cl, hc.beg]) (by rw [hc.beg]; exact hc.spot) (hu' _)
end InvJ
end Go.Proofs.YtikpckmlnhcddaaGreat

/-
  The conditions of the reference's calls hold of a store that a store of the program is held against. The conditions: lengths.
-/
namespace Go.Proofs.YtikpckmlnhcddaaGreat
open Go.RowKit Go.Maps

theorem allTo_allB {P : List RP} {n : Nm} {B : Nm → By} : ∀ k, k ≤ P.length → allTo P n (B n) k = allB B ((P.take k).map RP.core) n
  | 0, _ => by simp [allTo, allB]
  | k + 1, hk => by
    have hlt : k < P.length := by omega
    unfold allTo
    rw [allTo_allB k (by omega), List.take_succ_eq_append_getElem hlt, List.map_append, List.map_singleton, allB_snoc, getElem!_pos P k hlt]
    by_cases e : P[k].name = n
    · subst e
      rw [if_pos rfl]
      exact (one_same _ (RP.core P[k])).symm
    · rw [if_neg e, one_off _ (fun h => e h.symm)]
theorem atL_get {L : List RF} {n : Nm} {k : Nat} (h : atL L n = some k) : k < L.length ∧ (L[k]!).name = n := by
  unfold atL at h
  obtain ⟨h1, h2, _⟩ := List.findIdx?_eq_some_iff_getElem.1 h
  refine ⟨h1, ?_⟩
  rw [getElem!_pos L k h1]
  simpa using h2
theorem atL_isSome {L : List RF} {n : Nm} : (atL L n).isSome = true ↔ n ∈ L.map RF.name := by
  unfold atL
  rw [List.findIdx?_isSome]
  simp

theorem core_names (R : RS) : R.core.L.map CF.name = R.L.map RF.name := by
  unfold RS.core
  simp only [List.map_map]
  rfl
theorem hasR (R : RS) (n : Nm) : R.core.has n = (atL R.L n).isSome := by
  rw [Bool.eq_iff_iff, has_iff, atL_isSome, core_names]
theorem mayR (R : RS) (n : Nm) : R.core.may n = mayL R n := by
  unfold RC.may mayL
  rw [hasR]
  show (if R.down = true then _ else _) = _
  cases R.down <;> cases atL R.L n <;> rfl

/-- No two files have one name. -/
def Sole (R : RS) : Prop := (R.L.map RF.name).Pairwise (fun a b => a ≠ b)
theorem Sole.at_ {R : RS} (h : Sole R) {k : Nat} (hk : k < R.L.length) : atL R.L (R.L[k]!).name = some k := by
  refine atL_some hk rfl (fun j hj => ?_)
  have := List.pairwise_iff_getElem.1 h j k (by simp; omega) (by simpa using hk) hj
  rw [getElem!_pos R.L k hk, getElem!_pos R.L j (by omega)]
  simpa using this
theorem Sole.baseE {R : RS} (h : Sole R) {k : Nat} (hk : k < R.L.length) : base R.core.L (R.L[k]!).name = (R.L[k]!).b := by
  have ha := h.at_ hk
  unfold atL at ha
  have hf : fileC R.core.L (R.L[k]!).name = some (R.L[k]!).core := by
    unfold fileC RS.core
    simp only
    rw [List.find?_map]
    have e : List.find? ((fun f : CF => f.name == (R.L[k]!).name) ∘ RF.core) R.L = some (R.L[k]!) := by
      obtain ⟨h1, h2, h3⟩ := List.findIdx?_eq_some_iff_getElem.1 ha
      rw [List.find?_eq_some_iff_getElem]
      refine ⟨by simp [RF.core], k, hk, (getElem!_pos R.L k hk).symm, fun j hj => ?_⟩
      have := h3 j hj
      simpa [RF.core] using this
    rw [e]; rfl
  unfold base
  rw [hf]; rfl
theorem Sole.allT {R : RS} (h : Sole R) {k : Nat} (hk : k < R.L.length) {i : Nat} (hi : i ≤ R.P.length) : allTo R.P (R.L[k]!).name (R.L[k]!).b i = allB (base R.core.L) ((R.P.take i).map RP.core) (R.L[k]!).name := by
  rw [← h.baseE hk]
  exact allTo_allB i hi
theorem Sole.allE {R : RS} (h : Sole R) {k : Nat} (hk : k < R.L.length) : allTo R.P (R.L[k]!).name (R.L[k]!).b R.P.length = R.core.all (R.L[k]!).name := by
  rw [h.allT hk (Nat.le_refl _), List.take_length]; rfl
theorem Sole.at_all {R : RS} (h : Sole R) {n : Nm} {k : Nat} (ha : atL R.L n = some k) : allTo R.P n (R.L[k]!).b R.P.length = R.core.all n := by
  obtain ⟨hk, rfl⟩ := atL_get ha
  exact h.allE hk

theorem sizesTo_sum {R : RS} (h : Sole R) : ∀ k, k ≤ R.L.length → sizesTo R k = ((R.L.take k).map (fun f => (R.core.all f.name).length)).sum
  | 0, _ => by simp [sizesTo]
  | k + 1, hk => by
    have hlt : k < R.L.length := by omega
    unfold sizesTo
    rw [sizesTo_sum h k (by omega), h.allE hlt, List.take_succ_eq_append_getElem hlt, List.map_append, List.sum_append, getElem!_pos R.L k hlt]
    simp
theorem sizesE {R : RS} (h : Sole R) : sizesTo R R.L.length = R.core.sizes := by
  rw [sizesTo_sum h _ (Nat.le_refl _), List.take_length]
  unfold RC.sizes RS.core
  simp only [List.map_map]
  rfl
theorem sizesTo_le {R : RS} {a b : Nat} (h : a ≤ b) : sizesTo R a ≤ sizesTo R b := by
  induction h with
  | refl => exact Nat.le_refl _
  | @step m _ ih =>
    show sizesTo R a ≤ sizesTo R m + _
    omega

theorem InvJ.sole {J : List (PL × CP)} {fs : List MF} {left : Int} {pend turn N : Nat} {R : RS} (h : InvJ J fs left pend turn R.core N) : Sole R := by
  unfold Sole
  rw [← core_names, h.names, List.pairwise_map]
  refine h.sorted.imp (fun {a b} hab e => ?_)
  unfold Bef at hab
  rw [e, WideAt.bytes_irrefl] at hab
  simp at hab
theorem InvJ.refOk {J : List (PL × CP)} {fs : List MF} {left : Int} {pend turn N : Nat} {R : RS} (h : InvJ J fs left pend turn R.core N) (hN : R.core.P.length ≤ 2199023255552) : RefOk R := by
  have hs := h.sole
  have hPl2 : R.P.length ≤ 2199023255552 := by simpa [RS.core] using hN
  have hPJ : R.P.map RP.core = J.map (·.2) := h.P
  have hPl : R.P.length = J.length := by have := congrArg List.length hPJ; simpa using this
  have hget : ∀ k (hk : k < R.P.length), (R.P[k]!).core = (J[k]'(by omega)).2 := fun k hk => by
    have := congrArg (fun l => l[k]?) hPJ
    simp only [List.getElem?_map] at this
    rw [List.getElem?_eq_getElem hk, List.getElem?_eq_getElem (by omega)] at this
    rw [getElem!_pos R.P k hk]
    simpa using this
  have htk : ∀ i, (R.P.take i).map RP.core = (J.take i).map (·.2) := fun i => by rw [List.map_take, hPJ, List.map_take]
  have hmem : ∀ k, k < R.L.length → ∃ f ∈ fs, f.name = (R.L[k]!).name := fun k hk => by
    have : (R.L[k]!).name ∈ fs.map MF.name := by
      rw [← h.names, core_names]
      refine List.mem_map.2 ⟨R.L[k]!, ?_, rfl⟩
      rw [getElem!_pos R.L k hk]; exact List.getElem_mem _
    obtain ⟨f, hf, e⟩ := List.mem_map.1 this
    exact ⟨f, hf, e⟩
  have hLl : R.L.length = fs.length := by
    have := congrArg List.length h.names
    rw [core_names] at this
    simpa using this
  have hlen : ∀ k, k < R.L.length → ∀ i, i ≤ R.P.length → (allTo R.P (R.L[k]!).name (R.L[k]!).b i).length ≤ 4194304 := fun k hk i hi => by
    rw [hs.allT hk hi, htk]
    obtain ⟨f, hf, e⟩ := hmem k hk
    rw [← e]
    exact h.lenAt hf i
  refine ⟨fun k hk => hs.at_ hk, fun k hk => ⟨fun i hi he => ?_, fun i hi he => ?_, fun i hi => hlen k hk i hi⟩, hPl2, by have := h.files; omega, fun k hk => ?_, h.most⟩
  · rw [hs.allT hk (by omega), htk]
    have hc := cov_get h.cov (show i < J.length by omega)
    have hsp := hc.spot
    have hg := hget i hi
    rw [← hg] at hsp
    rw [← he]
    exact hsp
  · have h1 := hlen k hk (i + 1) (by omega)
    unfold allTo at h1
    rw [if_pos he] at h1
    have : (R.P[i]!).b.length ≤ (putL (allTo R.P (R.L[k]!).name (R.L[k]!).b i) (R.P[i]!).beg (R.P[i]!).b).length := by simp [putL]; omega
    omega
  · have h1 := sizesTo_le (R := R) hk
    rw [sizesE hs, h.sizes] at h1
    have h2 := h.room
    have h3 := h.left0
    have h4 : R.core.most = R.most := rfl
    omega
end Go.Proofs.YtikpckmlnhcddaaGreat

/-
  The program's calls, each held against the document's store: the answers, and what it is behind them. The conditions: lengths.
-/
namespace Go.Proofs.YtikpckmlnhcddaaGreat
open Go.RowKit Go.Maps

/-- A store of the program that is the document's r. -/
def Prg (W : World) (sb mb : Nat) (fs : List MF) (r : RC) (N : Nat) : Prop := ∃ J left pend turn, SRep W sb mb fs left pend turn (!r.down) ∧ InvJ J fs left pend turn r N
theorem Prg.up_N {W : World} {sb mb N M : Nat} {fs : List MF} {r : RC} (h : Prg W sb mb fs r N) (hM : N ≤ M) : Prg W sb mb fs r M := by
  obtain ⟨J, left, pend, turn, h1, h2⟩ := h
  exact ⟨J, left, pend, turn, h1, h2.up_N hM⟩
theorem Prg.down_bad {W : World} {sb mb N : Nat} {fs : List MF} {r : RC} (h : Prg W sb mb fs r N) (hd : r.down = true) : Bad W (.pointer (some ⟨sb, 0, none⟩)) 32 := by
  obtain ⟨J, left, pend, turn, h1, _⟩ := h
  rw [hd] at h1
  obtain ⟨c0, _, _, _, c4⟩ := box_cells h1.box
  exact .inr (.inr ⟨sb, mb, rfl, c0, c4, rfl⟩)

theorem may_up {r : RC} {n : Nm} (h : r.may n = 0) : r.down = false ∧ r.has n = true := by
  unfold RC.may at h
  cases hd : r.down with
  | true => rw [hd] at h; simp at h
  | false =>
    rw [hd] at h
    cases hh : r.has n with
    | true => exact ⟨rfl, rfl⟩
    | false => rw [hh] at h; simp at h
theorem may_not {r : RC} {n : Nm} (h : r.may n ≠ 0) : (r.down = true ∧ r.may n = 32) ∨ (r.down = false ∧ r.has n = false ∧ r.may n = 4) := by
  unfold RC.may at h ⊢
  cases hd : r.down with
  | true => exact .inl ⟨rfl, by simp⟩
  | false =>
    rw [hd] at h
    cases hh : r.has n with
    | true => rw [hh] at h; simp at h
    | false => exact .inr ⟨rfl, rfl, by simp⟩
theorem InvJ.has_some {J : List (PL × CP)} {fs : List MF} {left : Int} {pend turn N : Nat} {r : RC} (h : InvJ J fs left pend turn r N) {n : Nm} (hh : r.has n = true) : ∃ f, fileOf fs n = some f := by
  rw [h.hasF] at hh
  exact Option.isSome_iff_exists.1 hh
theorem InvJ.has_none {J : List (PL × CP)} {fs : List MF} {left : Int} {pend turn N : Nat} {r : RC} (h : InvJ J fs left pend turn r N) {n : Nm} (hh : r.has n = false) : fileOf fs n = none := by
  rw [h.hasF] at hh
  simpa using hh
theorem InvJ.len4 {J : List (PL × CP)} {fs : List MF} {left : Int} {pend turn N : Nat} {r : RC} (h : InvJ J fs left pend turn r N) : r.L.length = fs.length := by
  have := congrArg List.length h.names
  simpa using this
theorem str_len {s : ByteArray} (h : s.size ≤ maxLen) : s.data.toList.length ≤ maxLen := by simpa using h

theorem pcreate {W : World} {sb mb N : Nat} {fs : List MF} {r : RC} (h : Prg W sb mb fs r N) {s : ByteArray} (hlen : s.size ≤ maxLen) :
    Calls Tryz.prog 12 #[.pointer (some ⟨sb, 0, none⟩), .string s] W fun e w' => e = .returned (.int .i64 (r.createE s.data.toList)) ∧ ∃ fs', Prg w' sb mb fs' (r.create s.data.toList) N ∧ Step W w' sb mb fs fs' := by
  have same : r.createE s.data.toList ≠ 0 → ∀ w', w' = W → ∃ fs', Prg w' sb mb fs' (r.create s.data.toList) N ∧ Step W w' sb mb fs fs' := by
    rintro hE w' rfl
    unfold RC.create
    rw [if_neg hE]
    exact ⟨fs, h, Step.refl _ _ _ _⟩
  cases hd : r.down with
  | true =>
    have hE : r.createE s.data.toList = 32 := by unfold RC.createE; rw [hd]; rfl
    refine (create_bad (h.down_bad hd) s).mono ?_
    rintro e w' ⟨rfl, hw⟩
    exact ⟨by rw [hE], same (by rw [hE]; decide) w' hw⟩
  | false =>
    obtain ⟨J, left, pend, turn, h1, h2⟩ := id h
    rw [hd] at h1
    by_cases hb : s.data.toList = [] ∨ r.has s.data.toList = true
    · have hE : r.createE s.data.toList = 31 := by unfold RC.createE; rw [hd, if_neg (by simp), if_pos hb]
      refine (create_name h1 hlen (hb.imp id (fun hh => by rw [← h2.hasF]; exact hh))).mono ?_
      rintro e w' ⟨rfl, hw⟩
      exact ⟨by rw [hE], same (by rw [hE]; decide) w' hw⟩
    · have hb1 : s.data.toList ≠ [] := fun e => hb (.inl e)
      have hb2 : r.has s.data.toList = false := by
        cases hh : r.has s.data.toList with
        | false => rfl
        | true => exact absurd (.inr hh) hb
      have hf := h2.has_none hb2
      by_cases hl : 4096 ≤ r.L.length
      · have hE : r.createE s.data.toList = 6 := by unfold RC.createE; rw [hd, if_neg (by simp), if_neg hb, if_pos hl]
        refine (create_full h1 hlen hb1 hf (by rw [← h2.len4]; exact hl)).mono ?_
        rintro e w' ⟨rfl, hw⟩
        exact ⟨by rw [hE], same (by rw [hE]; decide) w' hw⟩
      · have hE : r.createE s.data.toList = 0 := by unfold RC.createE; rw [hd, if_neg (by simp), if_neg hb, if_neg hl]
        refine (create_ok h1 hlen hb1 hf (by rw [← h2.len4]; omega)).mono ?_
        rintro e w' ⟨rfl, r1, r2⟩
        refine ⟨by rw [hE], _, ?_, r2⟩
        unfold RC.create
        rw [if_pos hE]
        refine ⟨J, left, pend, turn, by rw [hd]; exact r1, h2.create (str_len hlen) hf (by rw [← h2.len4]; omega) (fun f hf' e => ?_)⟩
        have := h1.own_lt (i := f.fb) (.inr (.inr ⟨f, hf', .inl rfl⟩))
        omega

theorem pwrite {W : World} {sb mb N : Nat} {fs : List MF} {r : RC} (h : Prg W sb mb fs r N) (hN : N ≤ 4398046511104) (hP : r.P.length < 2199023255552) {s : ByteArray} (hlen : s.size ≤ maxLen) {k : Int} {v : Value} {b : By} (hb : Row .u8 W v b) (hclr : b ≠ [] → Clear (own sb mb fs) v) (hu : U8 b) :
    Calls Tryz.prog 13 #[.pointer (some ⟨sb, 0, none⟩), .string s, .int .i64 k, v] W fun e w' => e = .returned (.int .i64 (r.writeE s.data.toList k b)) ∧ ∃ fs', Prg w' sb mb fs' (r.write s.data.toList k b) (N + 1) ∧ Step W w' sb mb fs fs' := by
  obtain ⟨p, cap, rfl, hb1, hb2, hb3, hb4⟩ := id hb
  have same : ¬ (r.writeE s.data.toList k b = 0 ∧ b ≠ []) → ∀ w', w' = W → ∃ fs', Prg w' sb mb fs' (r.write s.data.toList k b) (N + 1) ∧ Step W w' sb mb fs fs' := by
    rintro hE w' rfl
    unfold RC.write
    rw [if_neg hE]
    exact ⟨fs, h.up_N (by omega), Step.refl _ _ _ _⟩
  by_cases hm : r.may s.data.toList = 0
  · obtain ⟨hd, hh⟩ := may_up hm
    obtain ⟨J, left, pend, turn, h1, h2⟩ := id h
    rw [hd] at h1
    obtain ⟨f, hf⟩ := h2.has_some hh
    obtain ⟨hfm, hfn⟩ := mem_of_fileOf hf
    have hc : f.c = r.all s.data.toList := by rw [h2.con f hfm, hfn]
    have hcl := h2.clen' hfm
    by_cases hk : k < 0 ∨ ((r.all s.data.toList).length : Int) < k
    · have hE : r.writeE s.data.toList k b = 33 := by unfold RC.writeE; rw [if_pos hm, if_pos hk]
      refine (write_spot h1 hlen hf (by rw [hc]; exact hk) p b.length cap).mono ?_
      rintro e w' ⟨rfl, hw⟩
      exact ⟨by rw [hE], same (by rw [hE]; simp) w' hw⟩
    · obtain ⟨kn, rfl⟩ : ∃ kn : Nat, k = (kn : Int) := ⟨k.toNat, by omega⟩
      have hkn : kn ≤ f.c.length := by rw [hc]; omega
      have hl := h2.leftE
      have hl0 := h2.left0
      have hl1 := h2.left1
      by_cases hr : left < (b.length : Int) - ((f.c.length : Int) - kn)
      · have hE : r.writeE s.data.toList (kn : Int) b = 30 := by
          unfold RC.writeE
          rw [if_pos hm, if_neg hk, if_pos]
          unfold more
          rw [← hc, ← hl]
          omega
        refine (write_room h1 hlen hf hkn hcl p b.length cap (by omega) hr).mono ?_
        rintro e w' ⟨rfl, hw⟩
        exact ⟨by rw [hE], same (by rw [hE]; simp) w' hw⟩
      · have hE : r.writeE s.data.toList (kn : Int) b = 0 := by
          unfold RC.writeE
          rw [if_pos hm, if_neg hk, if_neg]
          unfold more
          rw [← hc, ← hl]
          omega
        obtain ⟨_, l, rr, hs⟩ := fileOf_split hf
        subst hs
        by_cases hbe : b = []
        · subst hbe
          refine (write_empty h1 hlen hf (p := p) (cap := cap) hkn hl0).mono ?_
          rintro e w' ⟨rfl, hw⟩
          exact ⟨by rw [hE], same (by simp) w' hw⟩
        · have hwl := h2.wlen hfm
          have hpl : pend < 2199023255552 := by rw [h2.pend]; rw [h2.P] at hP; simpa using hP
          have htl := h2.turn
          have hcm := h2.clen hfm
          have hmm := h2.most
          refine (write_some h1 hlen hf hb (hclr hbe) hu hkn hcl (by omega) hbe (by omega) (by omega) hl0 hl1 (by omega) (by omega)).mono ?_
          rintro e w' ⟨rfl, cov, cv, pv, r1, r2⟩
          refine ⟨by rw [hE], _, ?_, r2⟩
          unfold RC.write
          rw [if_pos ⟨hE, hbe⟩]
          have h3 := h2.write hd hkn hu (by omega) cov cv pv
          rw [hfn] at h3
          exact ⟨_, _, _, _, by rw [show ({ r with P := r.P ++ [⟨s.data.toList, (kn : Int).toNat, b⟩] } : RC).down = r.down from rfl, hd]; exact r1, h3⟩
  · have hE : r.writeE s.data.toList k b = r.may s.data.toList := by unfold RC.writeE; rw [if_neg hm]
    have hne : ¬ (r.writeE s.data.toList k b = 0 ∧ b ≠ []) := fun hc => hm (by rw [← hE]; exact hc.1)
    rcases may_not hm with ⟨hd, he⟩ | ⟨hd, hh, he⟩
    · refine (write_bad (h.down_bad hd) s k p b.length cap).mono ?_
      rintro e w' ⟨rfl, hw⟩
      exact ⟨by rw [hE, he], same hne w' hw⟩
    · obtain ⟨J, left, pend, turn, h1, h2⟩ := id h
      rw [hd] at h1
      refine (write_none h1 hlen (h2.has_none hh) k p b.length cap).mono ?_
      rintro e w' ⟨rfl, hw⟩
      exact ⟨by rw [hE, he], same hne w' hw⟩

theorem psync {W : World} {sb mb N : Nat} {fs : List MF} {r : RC} (h : Prg W sb mb fs r N) (hN : N ≤ 4398046511104) {s : ByteArray} (hlen : s.size ≤ maxLen) :
    Calls Tryz.prog 26 #[.pointer (some ⟨sb, 0, none⟩), .string s] W fun e w' => e = .returned (.int .i64 (r.may s.data.toList)) ∧ ∃ fs', Prg w' sb mb fs' (r.sync s.data.toList) N ∧ Step W w' sb mb fs fs' := by
  by_cases hm : r.may s.data.toList = 0
  · obtain ⟨hd, hh⟩ := may_up hm
    obtain ⟨J, left, pend, turn, h1, h2⟩ := id h
    rw [hd] at h1
    obtain ⟨f, hf⟩ := h2.has_some hh
    obtain ⟨hfm, hfn⟩ := mem_of_fileOf hf
    have hc : f.c = r.all s.data.toList := by rw [h2.con f hfm, hfn]
    have hwl := h2.wlen hfm
    have hpl : pend ≤ N := by rw [h2.pend]; exact h2.len
    obtain ⟨_, l, rr, hs⟩ := fileOf_split hf
    subst hs
    refine (sync_some h1 hlen hf hwl (by omega)).mono ?_
    rintro e w' ⟨rfl, r1, r2⟩
    refine ⟨by rw [hm], _, ?_, r2⟩
    unfold RC.sync
    rw [if_pos hm]
    have h3 := h2.settle (f' := settled f) hd rfl rfl rfl (by show U8 f.c; rw [hc]; exact h2.u8 _) (Nat.le_refl _)
    have e0 : left + ((f.c.length : Int) - ((settled f).c.length : Int)) = left := by show left + ((f.c.length : Int) - (f.c.length : Int)) = left; omega
    rw [e0, hfn, show (settled f).c = r.all s.data.toList from hc] at h3
    exact ⟨_, _, _, _, by rw [show ({ r with L := setC r.L s.data.toList (r.all s.data.toList), P := offP r.P s.data.toList } : RC).down = r.down from rfl, hd]; exact r1, h3⟩
  · have hS : r.sync s.data.toList = r := by unfold RC.sync; rw [if_neg hm]
    rw [hS]
    rcases may_not hm with ⟨hd, he⟩ | ⟨hd, hh, he⟩
    · refine (sync_bad (h.down_bad hd) s).mono ?_
      rintro e w' ⟨rfl, rfl⟩
      exact ⟨by rw [he], fs, h, Step.refl _ _ _ _⟩
    · obtain ⟨J, left, pend, turn, h1, h2⟩ := id h
      rw [hd] at h1
      refine (sync_none h1 hlen (h2.has_none hh)).mono ?_
      rintro e w' ⟨rfl, rfl⟩
      exact ⟨by rw [he], fs, h, Step.refl _ _ _ _⟩

theorem pcut {W : World} {sb mb N : Nat} {fs : List MF} {r : RC} (h : Prg W sb mb fs r N) (hN : N ≤ 4398046511104) {s : ByteArray} (hlen : s.size ≤ maxLen) {k : Int} :
    Calls Tryz.prog 33 #[.pointer (some ⟨sb, 0, none⟩), .string s, .int .i64 k] W fun e w' => e = .returned (.int .i64 (r.cutE s.data.toList k)) ∧ ∃ fs', Prg w' sb mb fs' (r.cut s.data.toList k) N ∧ Step W w' sb mb fs fs' := by
  have same : r.cutE s.data.toList k ≠ 0 → ∀ w', w' = W → ∃ fs', Prg w' sb mb fs' (r.cut s.data.toList k) N ∧ Step W w' sb mb fs fs' := by
    rintro hE w' rfl
    unfold RC.cut
    rw [if_neg hE]
    exact ⟨fs, h, Step.refl _ _ _ _⟩
  by_cases hm : r.may s.data.toList = 0
  · obtain ⟨hd, hh⟩ := may_up hm
    obtain ⟨J, left, pend, turn, h1, h2⟩ := id h
    rw [hd] at h1
    obtain ⟨f, hf⟩ := h2.has_some hh
    obtain ⟨hfm, hfn⟩ := mem_of_fileOf hf
    have hc : f.c = r.all s.data.toList := by rw [h2.con f hfm, hfn]
    have hwl := h2.wlen hfm
    have hpl : pend ≤ N := by rw [h2.pend]; exact h2.len
    by_cases hk : k < 0 ∨ ((r.all s.data.toList).length : Int) < k
    · have hE : r.cutE s.data.toList k = 33 := by unfold RC.cutE; rw [if_pos hm, if_pos hk]
      refine (cut_spot h1 hlen hf (by rw [hc]; exact hk)).mono ?_
      rintro e w' ⟨rfl, hw⟩
      exact ⟨by rw [hE], same (by rw [hE]; decide) w' hw⟩
    · have hE : r.cutE s.data.toList k = 0 := by unfold RC.cutE; rw [if_pos hm, if_neg hk]
      obtain ⟨kn, rfl⟩ : ∃ kn : Nat, k = (kn : Int) := ⟨k.toNat, by omega⟩
      have hkn : kn ≤ f.c.length := by rw [hc]; omega
      obtain ⟨_, l, rr, hs⟩ := fileOf_split hf
      subst hs
      have hu : U8 f.c := by rw [hc]; exact h2.u8 _
      have fin : ∀ (w' : World) (f' : MF) (lf : Int), f'.name = f.name → f'.fb = f.fb → f'.ws = [] → f'.c = f.c.take kn → lf = left + ((f.c.length : Int) - kn) → SRep w' sb mb (l ++ f' :: rr) lf (pend - f.ws.length) turn true → Prg w' sb mb (l ++ f' :: rr) (r.cut s.data.toList (kn : Int)) N := by
        intro w' f' lf e1 e2 e3 e4 e5 hr
        unfold RC.cut
        rw [if_pos hE]
        have hl : f'.c.length = kn := by rw [e4]; simp; omega
        have h3 := h2.settle (f' := f') hd e1 e2 e3 (by rw [e4]; exact fun x hx => hu x (List.mem_of_mem_take hx)) (by omega)
        rw [hl, ← e5, hfn, e4, hc] at h3
        exact ⟨_, _, _, _, by rw [show ({ r with L := setC r.L s.data.toList ((r.all s.data.toList).take (kn : Int).toNat), P := offP r.P s.data.toList } : RC).down = r.down from rfl, hd]; exact hr, h3⟩
      rcases Nat.lt_or_ge kn f.c.length with hlt | hge
      · refine (cut_some h1 hlen hf hwl (by omega) (h2.clen' hfm) h2.left0 h2.left1 hlt).mono ?_
        rintro e w' ⟨rfl, cv, r1, r2⟩
        exact ⟨by rw [hE], _, fin w' { settled f with c := f.c.take kn, cv := cv } (left + ((f.c.length : Int) - kn)) rfl rfl rfl rfl rfl r1, r2⟩
      · obtain rfl : kn = f.c.length := by omega
        refine (cut_all h1 hlen hf hwl (by omega)).mono ?_
        rintro e w' ⟨rfl, r1, r2⟩
        exact ⟨by rw [hE], _, fin w' (settled f) left rfl rfl rfl (by show f.c = _; rw [List.take_length]) (by omega) r1, r2⟩
  · have hE : r.cutE s.data.toList k = r.may s.data.toList := by unfold RC.cutE; rw [if_neg hm]
    have hne : r.cutE s.data.toList k ≠ 0 := by rw [hE]; exact hm
    rcases may_not hm with ⟨hd, he⟩ | ⟨hd, hh, he⟩
    · refine (cut_bad (h.down_bad hd) s k).mono ?_
      rintro e w' ⟨rfl, hw⟩
      exact ⟨by rw [hE, he], same hne w' hw⟩
    · obtain ⟨J, left, pend, turn, h1, h2⟩ := id h
      rw [hd] at h1
      refine (cut_none h1 hlen (h2.has_none hh) k).mono ?_
      rintro e w' ⟨rfl, hw⟩
      exact ⟨by rw [hE, he], same hne w' hw⟩

theorem premove {W : World} {sb mb N : Nat} {fs : List MF} {r : RC} (h : Prg W sb mb fs r N) (hN : N ≤ 4398046511104) {s : ByteArray} (hlen : s.size ≤ maxLen) :
    Calls Tryz.prog 14 #[.pointer (some ⟨sb, 0, none⟩), .string s] W fun e w' => e = .returned (.int .i64 (r.may s.data.toList)) ∧ ∃ fs', Prg w' sb mb fs' (r.remove s.data.toList) N ∧ Step W w' sb mb fs fs' := by
  by_cases hm : r.may s.data.toList = 0
  · obtain ⟨hd, hh⟩ := may_up hm
    obtain ⟨J, left, pend, turn, h1, h2⟩ := id h
    rw [hd] at h1
    obtain ⟨f, hf⟩ := h2.has_some hh
    have hpl : pend ≤ N := by rw [h2.pend]; exact h2.len
    refine (remove_any h1 hlen hf (fun g hg => h2.wlen hg) (by omega) (fun g hg => h2.clen' hg) h2.left0 h2.left1).mono ?_
    rintro e w' ⟨rfl, r1, r2⟩
    refine ⟨by rw [hm], _, ?_, r2⟩
    unfold RC.remove
    rw [if_pos hm]
    have h3 := h2.remove hd s.data.toList
    have e1 : goneC fs s.data.toList = f.c.length := by simp [goneC, hf]
    have e2 : goneW fs s.data.toList = f.ws.length := by simp [goneW, hf]
    rw [e1, e2] at h3
    exact ⟨_, _, _, _, by rw [show ({ r with L := offL r.L s.data.toList, P := offP r.P s.data.toList } : RC).down = r.down from rfl, hd]; exact r1, h3⟩
  · have hS : r.remove s.data.toList = r := by unfold RC.remove; rw [if_neg hm]
    rw [hS]
    rcases may_not hm with ⟨hd, he⟩ | ⟨hd, hh, he⟩
    · refine (remove_bad (h.down_bad hd) s).mono ?_
      rintro e w' ⟨rfl, rfl⟩
      exact ⟨by rw [he], fs, h, Step.refl _ _ _ _⟩
    · obtain ⟨J, left, pend, turn, h1, h2⟩ := id h
      rw [hd] at h1
      refine (remove_none h1 hlen (h2.has_none hh)).mono ?_
      rintro e w' ⟨rfl, rfl⟩
      exact ⟨by rw [he], fs, h, Step.refl _ _ _ _⟩

theorem prename {W : World} {sb mb N : Nat} {fs : List MF} {r : RC} (h : Prg W sb mb fs r N) (hN : N ≤ 4398046511104) {s t : ByteArray} (hlen : s.size ≤ maxLen) (hlent : t.size ≤ maxLen) :
    Calls Tryz.prog 36 #[.pointer (some ⟨sb, 0, none⟩), .string s, .string t] W fun e w' => e = .returned (.int .i64 (r.renameE s.data.toList t.data.toList)) ∧ ∃ fs', Prg w' sb mb fs' (r.rename s.data.toList t.data.toList) N ∧ Step W w' sb mb fs fs' := by
  have same : ¬ (r.renameE s.data.toList t.data.toList = 0 ∧ t.data.toList ≠ s.data.toList) → ∀ w', w' = W → ∃ fs', Prg w' sb mb fs' (r.rename s.data.toList t.data.toList) N ∧ Step W w' sb mb fs fs' := by
    rintro hE w' rfl
    unfold RC.rename
    rw [if_neg hE]
    exact ⟨fs, h, Step.refl _ _ _ _⟩
  by_cases hm : r.may s.data.toList = 0
  · obtain ⟨hd, hh⟩ := may_up hm
    obtain ⟨J, left, pend, turn, h1, h2⟩ := id h
    rw [hd] at h1
    obtain ⟨f, hf⟩ := h2.has_some hh
    obtain ⟨hfm, hfn⟩ := mem_of_fileOf hf
    have hpl : pend ≤ N := by rw [h2.pend]; exact h2.len
    by_cases ht : t.data.toList = []
    · have hE : r.renameE s.data.toList t.data.toList = 31 := by unfold RC.renameE; rw [if_pos hm, if_pos ht]
      refine (rename_empty h1 hlen hf ht).mono ?_
      rintro e w' ⟨rfl, hw⟩
      exact ⟨by rw [hE], same (by rw [hE]; simp) w' hw⟩
    · have hE : r.renameE s.data.toList t.data.toList = 0 := by unfold RC.renameE; rw [if_pos hm, if_neg ht]
      by_cases hst : t.data.toList = s.data.toList
      · have hts : t = s := by
          have : t.data = s.data := Array.toList_inj.1 hst
          cases t; cases s; simp_all
        subst hts
        refine (rename_same h1 hlen hf ht).mono ?_
        rintro e w' ⟨rfl, hw⟩
        exact ⟨by rw [hE], same (by simp) w' hw⟩
      · refine (rename_any h1 hlen hlent hf ht (fun e => hst e.symm) (fun g hg => h2.wlen hg) (by omega) (fun g hg => h2.clen' hg) h2.left0 h2.left1 (by have := h2.files; omega)).mono ?_
        rintro e w' ⟨rfl, r1, r2⟩
        refine ⟨by rw [hE], _, ?_, r2⟩
        unfold RC.rename
        rw [if_pos ⟨hE, hst⟩]
        have h3 := h2.remove hd t.data.toList
        have hf3 : fileOf (dropF fs t.data.toList) s.data.toList = some f := by
          have hmem : f ∈ dropF fs t.data.toList := List.mem_filter.2 ⟨hfm, by rw [hfn, beq_eq_false_iff_ne.2 (fun e => hst e.symm)]; rfl⟩
          have hsome : (fileOf (dropF fs t.data.toList) s.data.toList).isSome = true := fileOf_some.2 (List.mem_map.2 ⟨f, hmem, hfn⟩)
          obtain ⟨g, hg⟩ := Option.isSome_iff_exists.1 hsome
          obtain ⟨hgm, hgn⟩ := mem_of_fileOf hg
          rw [hg, h3.uniq hgm hmem (hgn.trans hfn.symm)]
        have ht3 : fileOf (dropF fs t.data.toList) t.data.toList = none := by
          cases hq : fileOf (dropF fs t.data.toList) t.data.toList with
          | none => rfl
          | some g =>
            obtain ⟨hgm, hgn⟩ := mem_of_fileOf hq
            have := (List.mem_filter.1 hgm).2
            rw [hgn] at this
            simp at this
        have h4 := h3.rename hd (fun e => hst e.symm) hf3 ht3 (str_len hlent)
        simp only at h4
        have hb : base (offL r.L t.data.toList) s.data.toList = base r.L s.data.toList := by rw [base_offL, upd_off _ _ (fun e => hst e.symm)]
        rw [hb] at h4
        exact ⟨_, _, _, _, by rw [show ({ r with L := insC ⟨t.data.toList, base r.L s.data.toList⟩ (offL (offL r.L t.data.toList) s.data.toList), P := (offP r.P t.data.toList).map (ren s.data.toList t.data.toList) } : RC).down = r.down from rfl, hd]; exact r1, h4⟩
  · have hE : r.renameE s.data.toList t.data.toList = r.may s.data.toList := by unfold RC.renameE; rw [if_neg hm]
    have hne : ¬ (r.renameE s.data.toList t.data.toList = 0 ∧ t.data.toList ≠ s.data.toList) := fun hc => hm (by rw [← hE]; exact hc.1)
    rcases may_not hm with ⟨hd, he⟩ | ⟨hd, hh, he⟩
    · refine (rename_bad (h.down_bad hd) s t).mono ?_
      rintro e w' ⟨rfl, hw⟩
      exact ⟨by rw [hE, he], same hne w' hw⟩
    · obtain ⟨J, left, pend, turn, h1, h2⟩ := id h
      rw [hd] at h1
      refine (rename_none h1 hlen (h2.has_none hh) t).mono ?_
      rintro e w' ⟨rfl, hw⟩
      exact ⟨by rw [hE, he], same hne w' hw⟩

theorem pstart {W : World} {sb mb N : Nat} {fs : List MF} {r : RC} (h : Prg W sb mb fs r N) :
    Calls Tryz.prog 19 #[.pointer (some ⟨sb, 0, none⟩)] W fun e w' => e = .returned (.int .i64 r.startE) ∧ ∃ fs', Prg w' sb mb fs' r.start N ∧ Step W w' sb mb fs fs' := by
  obtain ⟨J, left, pend, turn, h1, h2⟩ := id h
  obtain ⟨c0, _, _, _, c4⟩ := box_cells h1.box
  cases hd : r.down with
  | true =>
    rw [hd] at c4
    refine (start_down c0 c4 (box_frozen h1.box 4)).mono ?_
    rintro e w' ⟨rfl, rfl⟩
    refine ⟨by simp [RC.startE, hd], fs, ⟨J, left, pend, turn, ?_, ?_⟩, Step.box (Only.set _ _ _ _ rfl)⟩
    · unfold RC.start
      rw [hd]
      exact h1.setUp true
    · unfold RC.start
      rw [hd]
      exact { h2 with down := fun e => by simp at e }
  | false =>
    rw [hd] at c4
    refine (start_up c0 c4).mono ?_
    rintro e w' ⟨rfl, rfl⟩
    refine ⟨by simp [RC.startE, hd], fs, ?_, Step.refl _ _ _ _⟩
    unfold RC.start
    rw [hd]
    exact h

set_option maxRecDepth 100000 in
set_option maxHeartbeats 4000000 in
theorem crash_dn_in (n : Nat) (hn : 4 ≤ n) {W : World} {sb mb pend turn : Nat} {left keep torn : Int} {fs : List MF} (h : SRep W sb mb fs left pend turn false) :
    CallsIn Fence.wide n Tryz.prog 18 #[.pointer (some ⟨sb, 0, none⟩), .int .i64 keep, .int .i64 torn] W fun e w' => e = .returned (.int .i64 32) ∧ Below W.heap.size W w' := by
  have hb1 : Below W.heap.size W ((W.alloc (.cells #[.pointer (some ⟨sb, 0, none⟩)] 24)).alloc (.cells #[.int .i64 torn] 3)) := (alloc_below W _).trans ((alloc_below _ _).mono (by simp))
  obtain ⟨c0, _, _, _, c4⟩ := box_cells (h.fresh hb1).box
  have HR1 := hide (ready_bad (.inr (.inr ⟨sb, mb, rfl, c0, c4, rfl⟩)))
  have HB1 := hide hb1
  clear h hb1 c0 c4
  refine callsIn_of_wp_marks Tryz.func18 rfl trivial ?_ rfl
  simp only [Tryz.ntmps18, List.size_toArray, List.length_cons, List.length_nil, Nat.reduceAdd, Nat.reduceSub, Array.replicate_succ, Array.replicate_zero, List.push_toArray, List.append_toArray, List.nil_append, List.cons_append]
  gi_wp2_with fail
  refine wpIn_scope_wide ?_
  gi_wp2_with fail
  refine ⟨trivial, fun _ => by omega, (callsIn_wide.2 HR1.out).mono ?_⟩
  rintro _ _ ⟨rfl, rfl⟩
  gi_wp2
  exact ⟨_, results_tmp rfl _ _ _, rfl, HB1.out⟩

theorem pcrash {W : World} {sb mb N : Nat} {fs : List MF} {r : RC} (h : Prg W sb mb fs r N) (hP : r.P.length ≤ 2199023255552) {keep torn : Int} (hk0 : -9223372036854775808 ≤ keep) (hk1 : keep ≤ 9223372036854775807) (ht0 : -9223372036854775808 ≤ torn) (ht1 : torn ≤ 9223372036854775807) :
    Calls Tryz.prog 18 #[.pointer (some ⟨sb, 0, none⟩), .int .i64 keep, .int .i64 torn] W fun e w' => e = .returned (.int .i64 r.crashE) ∧ ∃ fs', Prg w' sb mb fs' (r.crash keep torn) N ∧ Step W w' sb mb fs fs' := by
  obtain ⟨J, left, pend, turn, h1, h2⟩ := id h
  cases hd : r.down with
  | true =>
    rw [hd] at h1
    refine (callsIn_wide.1 (crash_dn_in 4 (Nat.le_refl _) h1)).mono ?_
    rintro e w' ⟨rfl, hb⟩
    refine ⟨by simp [RC.crashE, hd], fs, ?_, Step.fresh hb⟩
    unfold RC.crash
    rw [if_pos hd]
    exact ⟨J, left, pend, turn, by rw [hd]; exact h1.fresh hb, h2⟩
  | false =>
    rw [hd] at h1
    have hpl : pend ≤ 2199023255552 := by rw [h2.pend]; rw [h2.P] at hP; simpa using hP
    have hroom := h2.room
    have hmost := h2.most
    refine (crash_any h1 (by have := h2.files; omega) h2.placed_len (by omega) h2.nm (fun ds e1 e2 k hk => ?_) h2.left0 (by omega) hk0 hk1 ht0 ht1).mono ?_
    · rw [h2.placed_eq e1 e2] at hk ⊢
      exact h2.safe (by simpa using hk)
    · rintro e w' ⟨rfl, ds, hs, left', a1, a2, a3, a4, a5, a6, a7⟩
      rw [h2.placed_eq a1 a2] at a4 a5
      refine ⟨by simp [RC.crashE, hd], hs, ⟨[], left', 0, turn, ?_, h2.crash hd a4 a5 a7⟩, a6⟩
      rw [show (r.crash keep torn).down = true by unfold RC.crash; rw [if_neg (by simp [hd])]]
      exact a3
end Go.Proofs.YtikpckmlnhcddaaGreat
