/-
  Reading events, plainly; what an unpacker keeps where other blocks turn. No walk.
-/
import Derived.Test.YtihbdlbnpkmafaaEvg
import Derived.Test.YtihbdlbnpkmafaaUnp
import Derived.Test.YtihbdlbnpkmafaaRup
namespace Go.Proofs.Ytihbdlbnpkmafaa
open Go.RowKit

def anyR (l : List Int) (e : Int) : Int × List Int × Int := reads l e (-9223372036854775808) 9223372036854775807
def recR (l : List Int) (e : Int) : RC × List Int × Int := (⟨(anyR l e).1, (anyR (anyR l e).2.1 (anyR l e).2.2).1⟩, (anyR (anyR l e).2.1 (anyR l e).2.2).2)
def kindR (l : List Int) (e : Int) : Int × List Int × Int := reads l e 1 2
def idR (l : List Int) (e : Int) : Int × List Int × Int := reads l e 1 9007199254740992
def clean (x : EV) (e : Int) : EV := if e = 0 then x else ⟨0, 0, 0, 0⟩
def takeR (l : List Int) (e : Int) : EV × List Int × Int :=
  if (kindR l e).1 = 2 then (clean ⟨2, 0, 0, (idR (kindR l e).2.1 (kindR l e).2.2).1⟩ (idR (kindR l e).2.1 (kindR l e).2.2).2.2, (idR (kindR l e).2.1 (kindR l e).2.2).2)
  else if (kindR l e).1 = 1 then (clean ⟨1, (recR (kindR l e).2.1 (kindR l e).2.2).1.key, (recR (kindR l e).2.1 (kindR l e).2.2).1.val, 0⟩ (recR (kindR l e).2.1 (kindR l e).2.2).2.2, (recR (kindR l e).2.1 (kindR l e).2.2).2)
  else (⟨0, 0, 0, 0⟩, (kindR l e).2)
theorem reads_same {l : List Int} {e : Int} (h : e ≠ 0) (a b : Int) : reads l e a b = (0, l, e) := by unfold reads; rw [if_pos h]
theorem kind_vals (l : List Int) (e : Int) : ((kindR l e).1 = 1 ∨ (kindR l e).1 = 2) ∧ (kindR l e).2.2 = 0 ∨ (kindR l e).1 = 0 ∧ (kindR l e).2.2 ≠ 0 := by
  unfold kindR reads
  split
  · exact .inr ⟨rfl, by assumption⟩
  · split
    · exact .inr ⟨rfl, by assumption⟩
    · split
      · exact .inr ⟨rfl, by simp⟩
      · exact .inl ⟨by simp only; omega, rfl⟩
theorem reads_bd {l : List Int} {e a b : Int} (ha : -9223372036854775808 ≤ a) (hb : b ≤ 9223372036854775807) : I6 (reads l e a b).1 := by
  unfold I6 reads
  split
  · simp
  · split
    · simp
    · split
      · simp
      · simp only; omega
/-- So many events, as long as there is no error. -/
def loopR : Nat → List Int → Int → List EV × List Int × Int
  | 0, l, e => ([], l, e)
  | k + 1, l, e => if e = 0 then ((takeR l e).1 :: (loopR k (takeR l e).2.1 (takeR l e).2.2).1, (loopR k (takeR l e).2.1 (takeR l e).2.2).2) else ([], l, e)
theorem loopR_err {k : Nat} {l : List Int} {e : Int} (h : e ≠ 0) : loopR k l e = ([], l, e) := by
  cases k with
  | zero => rfl
  | succ k => simp only [loopR]; rw [if_neg h]
theorem loopR_next {k : Nat} {l l1 : List Int} {e1 : Int} {x : EV} (ht : takeR l 0 = (x, l1, e1)) : loopR (k + 1) l 0 = (x :: (loopR k l1 e1).1, (loopR k l1 e1).2) := by
  simp only [loopR]
  rw [if_pos trivial, ht]
theorem loopR_len : ∀ (k : Nat) (l : List Int) (e : Int), (loopR k l e).1.length ≤ k
  | 0, _, _ => Nat.le_refl _
  | k + 1, l, e => by
    simp only [loopR]
    split
    · have := loopR_len k (takeR l e).2.1 (takeR l e).2.2
      simp only [List.length_cons]
      omega
    · simp
def countR (b : List Int) : Int × List Int × Int := reads b 0 0 4096
def parseC (b : List Int) : List EV × Int :=
  if closes (loopR (countR b).1.toNat (countR b).2.1 (countR b).2.2).2.1 (loopR (countR b).1.toNat (countR b).2.1 (countR b).2.2).2.2 = 0 then ((loopR (countR b).1.toNat (countR b).2.1 (countR b).2.2).1, 0)
  else ([], closes (loopR (countR b).1.toNat (countR b).2.1 (countR b).2.2).2.1 (loopR (countR b).1.toNat (countR b).2.1 (countR b).2.2).2.2)
theorem count_bd (b : List Int) : 0 ≤ (countR b).1 ∧ (countR b).1 ≤ 4096 := by
  unfold countR reads
  split
  · simp
  · split
    · simp
    · split
      · simp
      · simp only; omega
def precC (b : List Int) : RC × Int := if closes (recR b 0).2.1 (recR b 0).2.2 = 0 then ((recR b 0).1, 0) else (⟨0, 0⟩, closes (recR b 0).2.1 (recR b 0).2.2)

/-- A block whose cells are no bytes. -/
def NoBytes (W : World) (i : Nat) : Prop := ∃ cs t f, W.heap[i]? = some (.cells cs t f) ∧ ∀ u ∈ cs.toList, ∀ x, u ≠ .int .u8 x
theorem Row.turn {F : Nat → Prop} {W w' : World} {v : Value} {l : List Int} (h : Row .u8 W v l) (ho : Only F W w') (hF : ∀ i, F i → W.heap.size ≤ i ∨ NoBytes W i) : Row .u8 w' v l := by
  obtain ⟨p, cap, rfl, h1, h2, h3, h4⟩ := h
  refine ⟨p, cap, rfl, h1, h2, h3, fun hp => ?_⟩
  obtain ⟨b, o, rfl, hc⟩ := h4 hp
  refine ⟨b, o, rfl, fun i hi => ho.cell (hc i hi) (fun hf => ?_)⟩
  have hc0 := hc i hi
  obtain ⟨ob, hob, hcell⟩ := cells_of_cell hc0
  rcases hF b hf with h | ⟨cs, t, f, h5, h6⟩
  · have := (Array.getElem?_eq_some_iff.1 hob).1
    simp only at this
    omega
  · simp only [World.cell?] at hc0
    rw [h5] at hc0
    simp only at hc0
    have hm : (.int .u8 (l.getD i 0)) ∈ cs.toList := by
      rw [Array.mem_toList_iff]
      exact Array.mem_of_getElem? hc0
    exact h6 _ hm _ rfl
theorem UnpX.turn {F : Nat → Prop} {W w' : World} {bu : Nat} {bx : Nat → Prop} {v : Value} {l : List Int} {e : Int} (h : UnpX bx W bu v l e) (ho : Only F W w') (hb : ¬ F bu) (hF : ∀ i, F i → W.heap.size ≤ i ∨ NoBytes W i) : UnpX bx w' bu v l e :=
  ⟨ho.obj h.block hb, h.row.turn ho hF, h.apart, h.u8, h.err⟩
theorem RUnp.turn {F : Nat → Prop} {W w' : World} {bw : Nat} {bx : Nat → Prop} {v : Value} {l : List Int} {e : Int} (h : RUnp bx W bw v l e) (ho : Only F W w') (hb : ¬ F bw) (hF : ∀ i, F i → W.heap.size ≤ i ∨ NoBytes W i) : RUnp bx w' bw v l e :=
  ⟨ho.obj h.block hb, h.row.turn ho hF, h.apart, h.u8, h.err⟩
theorem UnpX.lt {W : World} {bu : Nat} {bx : Nat → Prop} {v : Value} {l : List Int} {e : Int} (h : UnpX bx W bu v l e) : bu < W.heap.size := (Array.getElem?_eq_some_iff.1 h.block).1
theorem RUnp.lt {W : World} {bw : Nat} {bx : Nat → Prop} {v : Value} {l : List Int} {e : Int} (h : RUnp bx W bw v l e) : bw < W.heap.size := (Array.getElem?_eq_some_iff.1 h.block).1
theorem UnpX.noBytes {W : World} {bu : Nat} {bx : Nat → Prop} {v : Value} {l : List Int} {e : Int} (h : UnpX bx W bu v l e) : NoBytes W bu := by
  refine ⟨_, _, _, h.block, fun u hu x hx => ?_⟩
  obtain ⟨p, cap, rfl, _⟩ := h.row
  simp only [List.mem_cons, List.not_mem_nil, or_false] at hu
  rcases hu with rfl | rfl | rfl <;> simp at hx
theorem RUnp.noBytes {W : World} {bw : Nat} {bx : Nat → Prop} {v : Value} {l : List Int} {e : Int} (h : RUnp bx W bw v l e) : NoBytes W bw := by
  refine ⟨_, _, _, h.block, fun u hu x hx => ?_⟩
  obtain ⟨p, cap, rfl, _⟩ := h.row
  simp only [List.mem_cons, List.not_mem_nil, or_false] at hu
  rcases hu with rfl | rfl <;> simp at hx
theorem noBytes_of {W : World} {i : Nat} {l : List Int} {t : TypeId} {f : Nat × Nat} (h : W.heap[i]? = some (.cells (l.map (Value.int .i64)).toArray t f)) : NoBytes W i := by
  refine ⟨_, _, _, h, fun u hu x hx => ?_⟩
  simp only [List.mem_map] at hu
  obtain ⟨y, _, rfl⟩ := hu
  simp at hx
theorem only_grown {W w' : World} {b : Nat} (h : W.grownBy w' (some b)) : Only (· = b) W w' := Only.of_grown h (fun k e => by simpa using e.symm)
end Go.Proofs.Ytihbdlbnpkmafaa
