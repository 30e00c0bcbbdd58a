/-
  Records, numbers, transactions and sinks, plainly; lists as they lie. No conditions.
-/
import Derived.Test.YtboofnkajjnmeaaSeg
import Derived.Test.YtboofnkajjnmeaaArl
import Derived.Laws.Rows
import Derived.OwnWalk
namespace Go.Proofs.Ytboofnkajjnmeaa
open Go.ChangeShapes Go.WideShapes Go.ChangeAt Go.RowKit

def I6 (n : Int) : Prop := -9223372036854775808 ≤ n ∧ n ≤ 9223372036854775807
structure RC where
  key : Int
  val : Int
  deriving DecidableEq
instance : Inhabited RC := ⟨⟨0, 0⟩⟩
def RC.cells (x : RC) : List Value := [.int .i64 x.key, .int .i64 x.val]
def RC.fine (x : RC) : Prop := I6 x.key ∧ I6 x.val
theorem RC.len (x : RC) : x.cells.length = 2 := rfl
theorem RC.one (x : RC) : ∀ u ∈ x.cells, u.oneCell' = true := by
  intro u hu
  simp only [RC.cells, List.mem_cons, List.not_mem_nil, or_false] at hu
  rcases hu with rfl | rfl <;> rfl
structure LRow {α : Type} [Inhabited α] (cells : α → List Value) (n : Nat) (W : World) (p : Option Addr) (cap : Nat) (os : List α) : Prop where
  le : os.length ≤ cap
  top : cap ≤ 9223372036854775807
  nil : p = none → cap = 0
  cell : ∀ i, i < os.length → ∃ g o, p = some ⟨g, o, none⟩ ∧ ∀ j, j < n → W.cell? ⟨g, o + i * n + j, none⟩ = (cells os[i]!)[j]?
theorem LRow.below {α : Type} [Inhabited α] {cells : α → List Value} {n : Nat} {W W' : World} {p : Option Addr} {cap : Nat} {os : List α} (hl : ∀ o, (cells o).length = n) (h : LRow cells n W p cap os) (hb : Below W.heap.size W W') : LRow cells n W' p cap os :=
  ⟨h.le, h.top, h.nil, fun i hi => by
    obtain ⟨g, o, e, h1⟩ := h.cell i hi
    refine ⟨g, o, e, fun j hj => ?_⟩
    have h2 := h1 j hj
    rw [List.getElem?_eq_getElem (by rw [hl]; exact hj)] at h2 ⊢
    exact cell_later hb h2⟩
theorem LRow.of_own {α : Type} [Inhabited α] {cells : α → List Value} {size : Nat} {W : World} {base n cap : Nat} {e : TypeId} {p : Option Addr} {os : List α} (hl : ∀ o, (cells o).length = size) (hn : os.length = n) (h : W.ownsRow base e size (.slice p n cap) n (os.flatMap cells)) : LRow cells size W p cap os := by
  obtain ⟨h1, h2, h3, h4⟩ := own_list (cells := cells) (fun o _ => hl o) hn h
  exact ⟨by omega, h2, h3, h4⟩
theorem LRow.seg {α : Type} [Inhabited α] {cells : α → List Value} {size : Nat} {W : World} {p : Option Addr} {cap : Nat} {os : List α} (hs : 0 < size) (hl : ∀ o, (cells o).length = size) (h1 : ∀ o, ∀ u ∈ cells o, u.oneCell' = true) (h : LRow cells size W p cap os) : Seg W size (.slice p os.length cap) os.length (os.flatMap cells) :=
  Seg.of_list hs (fun o _ => hl o) (fun o _ => h1 o) h.le h.top h.nil h.cell
theorem LRow.only {α : Type} [Inhabited α] {cells : α → List Value} {n : Nat} {W W' : World} {p : Option Addr} {cap : Nat} {os : List α} {F : Nat → Prop} (hl : ∀ o, (cells o).length = n) (h : LRow cells n W p cap os) (hb : Only F W W') (hF : ∀ a, p = some a → ¬ F a.block) : LRow cells n W' p cap os :=
  ⟨h.le, h.top, h.nil, fun i hi => by
    obtain ⟨g, o, e, h1⟩ := h.cell i hi
    refine ⟨g, o, e, fun j hj => ?_⟩
    have h2 := h1 j hj
    rw [List.getElem?_eq_getElem (by rw [hl]; exact hj)] at h2 ⊢
    exact hb.cell h2 (fun hf => hF ⟨g, o, none⟩ e hf)⟩
abbrev RRow (W : World) (p : Option Addr) (cap : Nat) (os : List RC) : Prop := LRow RC.cells 2 W p cap os
theorem RRow.later {W W' : World} {p : Option Addr} {cap : Nat} {os : List RC} (h : RRow W p cap os) (hb : Below W.heap.size W W') : RRow W' p cap os := LRow.below RC.len h hb
theorem RRow.at {W : World} {p : Option Addr} {cap : Nat} {os : List RC} (h : RRow W p cap os) {i : Nat} (hi : i < os.length) {x : RC} (hx : os[i]! = x) : ∃ g o, p = some ⟨g, o, none⟩ ∧ W.cell? ⟨g, o + i * 2, none⟩ = some (.int .i64 x.key) ∧ W.cell? ⟨g, o + i * 2 + 1, none⟩ = some (.int .i64 x.val) := by
  obtain ⟨g, o, e, hc⟩ := h.cell i hi
  rw [hx] at hc
  exact ⟨g, o, e, hc 0 (by decide), hc 1 (by decide)⟩
def intCells (n : Int) : List Value := [.int .i64 n]
theorem intCells_len (n : Int) : (intCells n).length = 1 := rfl
theorem intCells_one (n : Int) : ∀ u ∈ intCells n, u.oneCell' = true := by
  intro u hu
  simp only [intCells, List.mem_cons, List.not_mem_nil, or_false] at hu
  rcases hu with rfl
  rfl
abbrev NRow (W : World) (p : Option Addr) (cap : Nat) (l : List Int) : Prop := LRow intCells 1 W p cap l
theorem NRow.only {W W' : World} {p : Option Addr} {cap : Nat} {l : List Int} {F : Nat → Prop} (h : NRow W p cap l) (hb : Only F W W') (hF : ∀ a, p = some a → ¬ F a.block) : NRow W' p cap l := LRow.only intCells_len h hb hF
theorem NRow.later {W W' : World} {p : Option Addr} {cap : Nat} {l : List Int} (h : NRow W p cap l) (hb : Below W.heap.size W W') : NRow W' p cap l := LRow.below intCells_len h hb
theorem NRow.at {W : World} {p : Option Addr} {cap : Nat} {l : List Int} (h : NRow W p cap l) {i : Nat} (hi : i < l.length) {x : Int} (hx : l[i]! = x) : ∃ g o, p = some ⟨g, o, none⟩ ∧ W.cell? ⟨g, o + i, none⟩ = some (.int .i64 x) := by
  obtain ⟨g, o, e, hc⟩ := h.cell i hi
  rw [hx] at hc
  have h0 := hc 0 (by decide)
  rw [Nat.mul_one] at h0
  exact ⟨g, o, e, h0⟩
theorem RRow.only {W W' : World} {p : Option Addr} {cap : Nat} {l : List RC} {F : Nat → Prop} (h : RRow W p cap l) (hb : Only F W W') (hF : ∀ a, p = some a → ¬ F a.block) : RRow W' p cap l := LRow.only RC.len h hb hF
theorem NRow.of_own {W : World} {base n cap : Nat} {e : TypeId} {p : Option Addr} {os : List Int} (hn : os.length = n) (h : W.ownsRow base e 1 (.slice p n cap) n (os.flatMap intCells)) : NRow W p cap os := LRow.of_own intCells_len hn h
theorem RRow.of_own {W : World} {base n cap : Nat} {e : TypeId} {p : Option Addr} {os : List RC} (hn : os.length = n) (h : W.ownsRow base e 2 (.slice p n cap) n (os.flatMap RC.cells)) : RRow W p cap os := LRow.of_own RC.len hn h
theorem below_drewN {n : Nat} {A B : World} (h : Below n A B) (k : Nat) : Below n A (B.drewN k) := ⟨h.os, h.tape, h.output, h.size, h.block⟩
structure TX where
  ep : Int
  id : Int
  beg : Int
  rs : List RC
  vs : List Int
deriving DecidableEq
instance : Inhabited TX := ⟨⟨0, 0, 0, [], []⟩⟩
structure TP where
  t : TX
  rp : Option Addr
  rc : Nat
  vp : Option Addr
  vc : Nat
instance : Inhabited TP := ⟨⟨default, none, 0, none, 0⟩⟩
def TP.row (x : TP) : Array Value := #[.int .i64 x.t.ep, .int .i64 x.t.id, .int .i64 x.t.beg, .slice x.rp x.t.rs.length x.rc, .slice x.vp x.t.vs.length x.vc]
def TP.cells (x : TP) : List Value := [.int .i64 x.t.ep, .int .i64 x.t.id, .int .i64 x.t.beg, .slice x.rp x.t.rs.length x.rc, .slice x.vp x.t.vs.length x.vc]
theorem TP.len (x : TP) : x.cells.length = 5 := rfl
theorem TP.one (x : TP) : ∀ u ∈ x.cells, u.oneCell' = true := by
  intro u hu
  simp only [TP.cells, List.mem_cons, List.not_mem_nil, or_false] at hu
  rcases hu with rfl | rfl | rfl | rfl | rfl <;> rfl
structure TP.ok (x : TP) (W : World) : Prop where
  r : RRow W x.rp x.rc x.t.rs
  v : NRow W x.vp x.vc x.t.vs
def InC (p : Option Addr) (c : Nat) (i : Nat) : Prop := ∃ a, p = some a ∧ 0 < c ∧ i = a.block
theorem LRow.onlyC {α : Type} [Inhabited α] {cells : α → List Value} {n : Nat} {W W' : World} {p : Option Addr} {cap : Nat} {os : List α} {F : Nat → Prop} (hl : ∀ o, (cells o).length = n) (h : LRow cells n W p cap os) (hb : Only F W W') (hF : ∀ i, InC p cap i → ¬ F i) : LRow cells n W' p cap os := by
  by_cases h0 : 0 < cap
  · exact h.only hl hb (fun a ha => hF _ ⟨a, ha, h0, rfl⟩)
  · exact ⟨h.le, h.top, h.nil, fun i hi => absurd hi (by have := h.le; omega)⟩
def TP.blk (x : TP) (i : Nat) : Prop := InC x.rp x.rc i ∨ InC x.vp x.vc i
theorem TP.ok.later {x : TP} {W W' : World} (h : x.ok W) (hb : Below W.heap.size W W') : x.ok W' := ⟨h.r.later hb, h.v.later hb⟩
theorem TP.ok.only {x : TP} {W W' : World} {F : Nat → Prop} (h : x.ok W) (ho : Only F W W') (hF : ∀ i, x.blk i → ¬ F i) : x.ok W' :=
  ⟨h.r.onlyC RC.len ho (fun _ e => hF _ (.inl e)), h.v.onlyC intCells_len ho (fun _ e => hF _ (.inr e))⟩
structure TL (W : World) (p : Option Addr) (cap : Nat) (xs : List TP) : Prop where
  row : LRow TP.cells 5 W p cap xs
  ok : ∀ x ∈ xs, x.ok W
theorem TL.later {W W' : World} {p : Option Addr} {cap : Nat} {xs : List TP} (h : TL W p cap xs) (hb : Below W.heap.size W W') : TL W' p cap xs := ⟨h.row.below TP.len hb, fun x hx => (h.ok x hx).later hb⟩
theorem TL.only {W W' : World} {p : Option Addr} {cap : Nat} {xs : List TP} {F : Nat → Prop} (h : TL W p cap xs) (ho : Only F W W') (hp : ∀ a, p = some a → ¬ F a.block) (hF : ∀ x ∈ xs, ∀ i, x.blk i → ¬ F i) : TL W' p cap xs := ⟨h.row.only TP.len ho hp, fun x hx => (h.ok x hx).only ho (hF x hx)⟩
theorem TL.at {W : World} {p : Option Addr} {cap : Nat} {os : List TP} (h : TL W p cap os) {i : Nat} (hi : i < os.length) {x : TP} (hx : os[i]! = x) : ∃ g o, p = some ⟨g, o, none⟩ ∧ W.cell? ⟨g, o + i * 5, none⟩ = some (.int .i64 x.t.ep) ∧ W.cell? ⟨g, o + i * 5 + 1, none⟩ = some (.int .i64 x.t.id) ∧ W.cell? ⟨g, o + i * 5 + 2, none⟩ = some (.int .i64 x.t.beg) ∧ W.cell? ⟨g, o + i * 5 + 3, none⟩ = some (.slice x.rp x.t.rs.length x.rc) ∧ W.cell? ⟨g, o + i * 5 + 4, none⟩ = some (.slice x.vp x.t.vs.length x.vc) ∧ x.ok W := by
  obtain ⟨g, o, e, hc⟩ := h.row.cell i hi
  have hm : x ∈ os := by rw [← hx, getElem!_pos os i hi]; exact List.getElem_mem hi
  rw [hx] at hc
  exact ⟨g, o, e, hc 0 (by decide), hc 1 (by decide), hc 2 (by decide), hc 3 (by decide), hc 4 (by decide), h.ok x hm⟩
structure SK where
  reg : Int
  out : List RC
  vec : List Int
  done : List Int
  pre : List TX
deriving DecidableEq
instance : Inhabited SK := ⟨⟨0, [], [], [], []⟩⟩
def posI (n : Int) : Prop := 1 ≤ n ∧ n ≤ 9007199254740992
def numI (n : Int) : Prop := 0 ≤ n ∧ n ≤ 9007199254740992
instance (n : Int) : Decidable (posI n) := by unfold posI; infer_instance
instance (n : Int) : Decidable (numI n) := by unfold numI; infer_instance
def vecI (parts : Int) (v : List Int) : Prop := (v.length : Int) = parts ∧ ∀ x ∈ v, numI x
instance (p : Int) (v : List Int) : Decidable (vecI p v) := by unfold vecI; infer_instance
def mayC (parts : Int) (t : TX) : Prop := posI t.ep ∧ posI t.id ∧ 0 ≤ t.beg ∧ t.beg ≤ 4096 ∧ t.rs.length ≤ 4096 ∧ vecI parts t.vs
instance (p : Int) (t : TX) : Decidable (mayC p t) := by unfold mayC; infer_instance
def aboveC : List Int → List Int → Bool
  | [], [] => true
  | a :: l, b :: m => decide (b ≤ a) && aboveC l m
  | _, _ => false
def sameC (s : SK) (t : TX) : Bool := decide (s.out.drop t.beg.toNat = t.rs.take (s.out.length - t.beg.toNat))
def suitC (s : SK) (t : TX) : Int :=
  if (s.out.length : Int) < t.beg then 151 else if aboveC t.vs s.vec = false ∨ t.beg + t.rs.length < s.out.length then 152 else if sameC s t = false then 153 else if 4096 < t.beg + t.rs.length then 30 else 0
def raisC (s : SK) (e : Int) : SK := if s.reg < e then ⟨e, s.out, s.vec, [], []⟩ else s
def entC (s : SK) (e : Int) : Int := if e < s.reg then 150 else 0
def doneC (s : SK) (e i : Int) : Bool := decide (e = s.reg ∧ i ∈ s.done)
def findC (s : SK) (i : Int) : Option TX := s.pre.find? (fun t => t.id == i)
def insT (t : TX) : List TX → List TX
  | [] => [t]
  | x :: xs => if x.id < t.id then x :: insT t xs else t :: x :: xs
def insI (n : Int) : List Int → List Int
  | [] => [n]
  | x :: xs => if x < n then x :: insI n xs else n :: x :: xs
def delT (i : Int) (l : List TX) : List TX := l.filter (fun t => t.id != i)
def fenE (s : SK) (e : Int) : Int := if posI e then entC s e else 1
def fenS (s : SK) (e : Int) : SK := if posI e then raisC s e else s
def preE1 (s : SK) (t : TX) : Int :=
  if doneC s t.ep t.id = true then 0 else match findC s t.id with
    | some h => if h = t then 0 else 5
    | none => if suitC s t = 0 then (if 8 ≤ s.pre.length then 6 else 0) else suitC s t
def preS1 (s : SK) (t : TX) : SK :=
  if doneC s t.ep t.id = true then s else match findC s t.id with
    | some _ => s
    | none => if suitC s t = 0 then (if 8 ≤ s.pre.length then s else ⟨s.reg, s.out, s.vec, s.done, insT t s.pre⟩) else s
def preE (parts : Int) (s : SK) (t : TX) : Int := if mayC parts t then (if t.ep < s.reg then 150 else preE1 (raisC s t.ep) t) else 1
def preS (parts : Int) (s : SK) (t : TX) : SK := if mayC parts t then (if t.ep < s.reg then s else preS1 (raisC s t.ep) t) else s
def putC (s : SK) (t : TX) (i : Int) : SK := ⟨s.reg, s.out ++ t.rs.drop (s.out.length - t.beg.toNat), t.vs, insI i s.done, delT i s.pre⟩
def comE1 (s : SK) (e i : Int) : Int :=
  if doneC s e i = true then 0 else match findC s i with
    | some t => suitC s t
    | none => 4
def comS1 (s : SK) (e i : Int) : SK :=
  if doneC s e i = true then s else match findC s i with
    | some t => if suitC s t = 0 then putC s t i else s
    | none => s
def comE (s : SK) (e i : Int) : Int := if posI e ∧ posI i then (if e < s.reg then 150 else comE1 (raisC s e) e i) else 1
def comS (s : SK) (e i : Int) : SK := if posI e ∧ posI i then (if e < s.reg then s else comS1 (raisC s e) e i) else s
def aboE1 (s : SK) (e i : Int) : Int := if doneC s e i = true then 5 else 0
def aboS1 (s : SK) (e i : Int) : SK := if doneC s e i = true then s else ⟨s.reg, s.out, s.vec, s.done, delT i s.pre⟩
def aboE (s : SK) (e i : Int) : Int := if posI e ∧ posI i then (if e < s.reg then 150 else aboE1 (raisC s e) e i) else 1
def aboS (s : SK) (e i : Int) : SK := if posI e ∧ posI i then (if e < s.reg then s else aboS1 (raisC s e) e i) else s
def newS (parts : Nat) : SK := ⟨0, [], List.replicate parts 0, [], []⟩
structure okS (s : SK) : Prop where
  reg : numI s.reg
  out : s.out.length ≤ 4096
  parts : 1 ≤ s.vec.length ∧ s.vec.length ≤ 4
  vec : ∀ x ∈ s.vec, numI x
  done : s.done.Pairwise (· < ·) ∧ ∀ x ∈ s.done, posI x
  room : s.pre.length ≤ 8
  pre : s.pre.Pairwise (fun a b => a.id < b.id)
  may : ∀ t ∈ s.pre, mayC s.vec.length t ∧ t.ep = s.reg ∧ t.id ∉ s.done
  zero : s.reg = 0 → s.out = [] ∧ s.done = [] ∧ s.pre = [] ∧ ∀ x ∈ s.vec, x = 0
end Go.Proofs.Ytboofnkajjnmeaa
