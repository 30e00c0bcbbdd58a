/-
  The program's sink as it lies in memory. No conditions.
-/
import Derived.Test.YtboofnkajjnmeaaSkc
import Derived.Test.YtboofnkajjnmeaaSke
namespace Go.Proofs.Ytboofnkajjnmeaa
open Go.RowKit

structure PK where
  b : Nat
  mb : Nat
  op : Option Addr
  oc : Nat
  vp : Option Addr
  vc : Nat
  dp : Option Addr
  dc : Nat
  reg : Int
  out : List RC
  vec : List Int
  done : List Int
  xs : List TP
def PK.sk (k : PK) : SK := ⟨k.reg, k.out, k.vec, k.done, k.xs.map TP.t⟩
def PK.row (k : PK) : Array Value := #[.int .i64 k.reg, .slice k.op k.out.length k.oc, .slice k.vp k.vec.length k.vc, .slice k.dp k.done.length k.dc, .map (some k.mb)]
def InB (p : Option Addr) (i : Nat) : Prop := ∃ a, p = some a ∧ i = a.block
theorem InB.of {p : Option Addr} {n c i : Nat} (h : (Value.slice p n c).ownBlock = some i) : InB p i := by
  cases p with
  | none => simp [Value.ownBlock] at h
  | some a => exact ⟨a, rfl, by simpa [Value.ownBlock] using h.symm⟩
theorem InB.to {p : Option Addr} {n c i : Nat} (h : InB p i) : (Value.slice p n c).ownBlock = some i := by
  obtain ⟨a, rfl, rfl⟩ := h
  rfl
def PK.blk (k : PK) (i : Nat) : Prop := i = k.b ∨ i = k.mb ∨ InB k.op i ∨ InB k.vp i ∨ InB k.dp i ∨ ∃ x ∈ k.xs, InB x.rp i ∨ InB x.vp i
structure TO (B : Nat) (W : World) (x : TP) : Prop where
  r : W.ownsRow B 49 2 (.slice x.rp x.t.rs.length x.rc) x.t.rs.length (x.t.rs.flatMap RC.cells)
  v : W.ownsRow B 2 1 (.slice x.vp x.t.vs.length x.vc) x.t.vs.length (x.t.vs.flatMap intCells)
def Off (p q : Option Addr) : Prop := ∀ i, InB p i → ¬ InB q i
structure PS (B : Nat) (W : World) (k : PK) : Prop where
  box : W.heap[k.b]? = some (.cells k.row 63 (0, 0))
  map : MapT W k.mb k.xs.length k.xs
  out : W.ownsRow B 49 2 (.slice k.op k.out.length k.oc) k.out.length (k.out.flatMap RC.cells)
  vec : W.ownsRow B 2 1 (.slice k.vp k.vec.length k.vc) k.vec.length (k.vec.flatMap intCells)
  done : W.ownsRow B 2 1 (.slice k.dp k.done.length k.dc) k.done.length (k.done.flatMap intCells)
  pre : ∀ x ∈ k.xs, TO B W x
  ap : Off k.vp k.dp ∧ (∀ x ∈ k.xs, Off x.rp k.op ∧ Off x.vp k.dp)
  ge : B ≤ k.b ∧ B ≤ k.mb
  ok : okS k.sk
theorem TO.ok {B : Nat} {W : World} {x : TP} (h : TO B W x) : x.ok W := ⟨RRow.of_own rfl h.r, NRow.of_own rfl h.v⟩
theorem TO.later {B : Nat} {W W' : World} {x : TP} (h : TO B W x) (hb : Below W.heap.size W W') : TO B W' x := ⟨ownsRow_later h.r hb, ownsRow_later h.v hb⟩
theorem TO.only {B : Nat} {W W' : World} {x : TP} {F : Nat → Prop} (h : TO B W x) (ho : Only F W W') (h1 : ∀ i, InB x.rp i → ¬ F i) (h2 : ∀ i, InB x.vp i → ¬ F i) : TO B W' x :=
  ⟨ownsRow_only h.r ho (fun i hi => h1 i (InB.of hi)), ownsRow_only h.v ho (fun i hi => h2 i (InB.of hi))⟩
theorem row_type {W : World} {B k n n2 c c2 k2 B2 : Nat} {t t2 : TypeId} {p q : Option Addr} {xs ys : List Value} (h : W.ownsRow B t k (.slice p n c) n xs) (h2 : W.ownsRow B2 t2 k2 (.slice q n2 c2) n2 ys) (ht : t ≠ t2) : Off p q := fun _ hi hj => by
  obtain ⟨_, c1, e1⟩ := own_block_lt h (InB.to hi)
  obtain ⟨_, c2, e2⟩ := own_block_lt h2 (InB.to hj)
  rw [e1] at e2
  simp at e2
  exact ht e2.2
theorem row_box {W : World} {B k n c b : Nat} {t t2 : TypeId} {p : Option Addr} {xs : List Value} {cs : Array Value} {fr : Nat × Nat} (h : W.ownsRow B t k (.slice p n c) n xs) (hb : W.heap[b]? = some (.cells cs t2 fr)) (ht : t ≠ t2) : ∀ i, InB p i → i ≠ b := fun i hi e => by
  obtain ⟨_, c1, e1⟩ := own_block_lt h (InB.to hi)
  rw [e, hb] at e1
  simp at e1
  exact ht e1.2.1.symm
theorem row_map {W : World} {B k n c m N : Nat} {t : TypeId} {p : Option Addr} {xs : List Value} {ys : List TP} (h : W.ownsRow B t k (.slice p n c) n xs) (hm : MapT W m N ys) : ∀ i, InB p i → i ≠ m := fun i hi e => by
  obtain ⟨_, c1, e1⟩ := own_block_lt h (InB.to hi)
  rw [e] at e1
  exact hm.box e1 rfl
theorem row_ge {W : World} {B k n c : Nat} {t : TypeId} {p : Option Addr} {xs : List Value} (h : W.ownsRow B t k (.slice p n c) n xs) : ∀ i, InB p i → B ≤ i ∧ i < W.heap.size := fun _ hi =>
  ⟨own_block_base h (InB.to hi), (own_block_lt h (InB.to hi)).1⟩
theorem PS.lt {B : Nat} {W : World} {k : PK} (h : PS B W k) {i : Nat} (hi : k.blk i) : B ≤ i ∧ i < W.heap.size := by
  rcases hi with rfl | rfl | hi | hi | hi | ⟨x, hx, hi | hi⟩
  · exact ⟨h.ge.1, box_lt h.box⟩
  · exact ⟨h.ge.2, h.map.lt⟩
  · exact row_ge h.out i hi
  · exact row_ge h.vec i hi
  · exact row_ge h.done i hi
  · exact row_ge (h.pre x hx).r i hi
  · exact row_ge (h.pre x hx).v i hi
theorem PS.only {B : Nat} {W W' : World} {k : PK} {F : Nat → Prop} (h : PS B W k) (ho : Only F W W') (hF : ∀ i, k.blk i → ¬ F i) : PS B W' k :=
  ⟨ho.obj h.box (hF _ (.inl rfl)), h.map.only ho (hF _ (.inr (.inl rfl))), ownsRow_only h.out ho (fun i hi => hF i (.inr (.inr (.inl (InB.of hi))))), ownsRow_only h.vec ho (fun i hi => hF i (.inr (.inr (.inr (.inl (InB.of hi)))))), ownsRow_only h.done ho (fun i hi => hF i (.inr (.inr (.inr (.inr (.inl (InB.of hi))))))),
    fun x hx => (h.pre x hx).only ho (fun i hi => hF i (.inr (.inr (.inr (.inr (.inr ⟨x, hx, .inl hi⟩)))))) (fun i hi => hF i (.inr (.inr (.inr (.inr (.inr ⟨x, hx, .inr hi⟩)))))), h.ap, h.ge, h.ok⟩
theorem PS.later {B : Nat} {W W' : World} {k : PK} (h : PS B W k) (hb : Below W.heap.size W W') : PS B W' k := h.only (Only.fresh hb (fun _ => False)) (fun _ _ e => e)
def Put (B : Nat) (W : World) (k : PK) (s : SK) (W' : World) : Prop := ∃ k', PS B W' k' ∧ k'.sk = s ∧ k'.b = k.b ∧ Only k.blk W W' ∧ ∀ i, k'.blk i → k.blk i ∨ W.heap.size ≤ i
theorem Put.same {B : Nat} {W W' : World} {k : PK} (h : PS B W k) (hb : Below W.heap.size W W') : Put B W k k.sk W' := ⟨k, h.later hb, rfl, rfl, Only.fresh hb _, fun _ hi => .inl hi⟩
theorem Put.trans {B : Nat} {W W' W2 : World} {k k' : PK} {s : SK} (hb : k'.b = k.b) (ho : Only k.blk W W') (hk : ∀ i, k'.blk i → k.blk i ∨ W.heap.size ≤ i) (h2 : Put B W' k' s W2) : Put B W k s W2 := by
  obtain ⟨k2, h3, h4, h5, h6, h7⟩ := h2
  refine ⟨k2, h3, h4, h5.trans hb, ho.step h6 hk, fun i hi => ?_⟩
  rcases h7 i hi with h | h
  · exact hk i h
  · exact .inr (Nat.le_trans ho.size h)
theorem Put.first {B : Nat} {W W1 W2 : World} {k : PK} {s : SK} (hb : Below W.heap.size W W1) (h2 : Put B W1 k s W2) : Put B W k s W2 :=
  Put.trans rfl (Only.fresh hb _) (fun _ hi => .inl hi) h2
def zeroSink : Array Value := #[.int .i64 0, .slice none 0 0, .slice none 0 0, .slice none 0 0, .map none]
def Bad (W : World) (v : Value) : Prop := v = .pointer none ∨ ∃ b, v = .pointer (some ⟨b, 0, none⟩) ∧ W.heap[b]? = some (.cells zeroSink 63 (0, 0))
theorem Bad.later {W W' : World} {v : Value} (h : Bad W v) (hb : Below W.heap.size W W') : Bad W' v := by
  rcases h with h | ⟨b, h1, h2⟩
  · exact .inl h
  · exact .inr ⟨b, h1, below_box hb h2⟩
theorem Bad.form {W : World} {v : Value} (h : Bad W v) : ∃ p, v = .pointer p := by
  rcases h with rfl | ⟨b, rfl, _⟩ <;> exact ⟨_, rfl⟩
theorem PK.parts {B : Nat} {W : World} {k : PK} (h : PS B W k) : 1 ≤ k.vec.length ∧ k.vec.length ≤ 4 := h.ok.parts
theorem PS.named {B : Nat} {W : World} {k : PK} (h : PS B W k) : Named k.xs k.reg := by
  refine ⟨fun x hx => ?_, ?_⟩
  · obtain ⟨h1, h2, _⟩ := h.ok.may x.t (List.mem_map.2 ⟨x, hx, rfl⟩)
    exact ⟨h2, h1.1, h1.2.1⟩
  · have h1 := h.ok.pre
    rw [show k.sk.pre = k.xs.map TP.t from rfl, List.pairwise_map] at h1
    exact h1.imp (fun {a b} hab e => by omega)
theorem PS.orow {B : Nat} {W : World} {k : PK} (h : PS B W k) : RRow W k.op k.oc k.out := RRow.of_own rfl h.out
theorem PS.vrow {B : Nat} {W : World} {k : PK} (h : PS B W k) : NRow W k.vp k.vc k.vec := NRow.of_own rfl h.vec
theorem PS.drow {B : Nat} {W : World} {k : PK} (h : PS B W k) : NRow W k.dp k.dc k.done := NRow.of_own rfl h.done
theorem PS.c0 {B : Nat} {W : World} {k : PK} (h : PS B W k) : W.cell? ⟨k.b, 0, none⟩ = some (.int .i64 k.reg) := cellB h.box rfl
theorem PS.c1 {B : Nat} {W : World} {k : PK} (h : PS B W k) : W.cell? ⟨k.b, 1, none⟩ = some (.slice k.op k.out.length k.oc) := cellB h.box rfl
theorem PS.c2 {B : Nat} {W : World} {k : PK} (h : PS B W k) : W.cell? ⟨k.b, 2, none⟩ = some (.slice k.vp k.vec.length k.vc) := cellB h.box rfl
theorem PS.c3 {B : Nat} {W : World} {k : PK} (h : PS B W k) : W.cell? ⟨k.b, 3, none⟩ = some (.slice k.dp k.done.length k.dc) := cellB h.box rfl
theorem PS.c4 {B : Nat} {W : World} {k : PK} (h : PS B W k) : W.cell? ⟨k.b, 4, none⟩ = some (.map (some k.mb)) := cellB h.box rfl
set_option maxRecDepth 100000 in
theorem made_yes {B : Nat} {W : World} {k : PK} (h : PS B W k) : Calls Try.prog 43 #[.pointer (some ⟨k.b, 0, none⟩)] W fun e w' => e = .returned (.bool true) ∧ w' = W := by
  have u2 := h.c2
  obtain ⟨n, hn⟩ : ∃ n, k.vec.length = n := ⟨_, rfl⟩
  rw [hn] at u2
  have h1 := h.ok.parts.1
  have h2 : k.sk.vec.length = n := hn
  have e1 : decide ((n : Int) > 0) = true := decide_eq_true (by omega)
  have e2 : decide (n > 0) = true := decide_eq_true (by omega)
  clear h1 h2 hn h
  go_enter Try.func43, Try.ntmps43
  go_wp2
  go_ret
  exact ⟨rfl, rfl⟩
end Go.Proofs.Ytboofnkajjnmeaa
