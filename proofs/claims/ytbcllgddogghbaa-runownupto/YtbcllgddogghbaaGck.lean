/-
  The reference's Check. No conditions.
-/
import Derived.Test.YtbcllgddogghbaaGir
import Derived.Test.YtbcllgddogghbaaGpl
namespace Go.Proofs.Ytbcllgddogghbaa
open Go.RowKit

def looseAt (os : List GO) : Option Nat := (List.range os.length).find? (fun n => looseP os n)
def checkC (parts : Int) (os : List GO) : Int × Int :=
  if 1 ≤ parts ∧ parts ≤ 4 then
    if os.length ≤ 24 then
      match (scanS parts os).bad with
      | some x => ((x.1 : Int), x.2)
      | none =>
        match looseAt os with
        | some n => ((n : Int), 54)
        | none => (0, endsC parts.toNat os)
    else (0, 3)
  else (0, 1)
theorem check_hit {parts : Int} {os : List GO} (h1 : 1 ≤ parts ∧ parts ≤ 4) (hl : os.length ≤ 24) {k : Nat} (hk : k < os.length) (h : (scanS parts (os.take k)).bad = none) {e : Int} (he : rOneC parts os k = e) (h0 : e ≠ 0) : checkC parts os = ((k : Int), e) := by
  have h3 := scan_one hk h
  rw [one_eq hk h, he, if_neg h0] at h3
  have h4 : (scanS parts (os.take (k + 1))).bad = some (k, e) := by rw [h3]
  unfold checkC
  rw [if_pos h1, if_pos hl, scanS_more h4, h4]
theorem check_next {parts : Int} {os : List GO} {k : Nat} (hk : k < os.length) (h : (scanS parts (os.take k)).bad = none) (he : rOneC parts os k = 0) : (scanS parts (os.take (k + 1))).bad = none := by
  have h3 := scan_one hk h
  rw [one_eq hk h, he, if_pos rfl] at h3
  rw [h3]
theorem ins_four {o : GO} {a : List GO} (h : insC o a = true) : o.ins.length ≤ 4 := by
  unfold insC at h
  rw [Bool.and_eq_true, decide_eq_true_eq] at h
  have : mostC o.kind ≤ 4 := by unfold mostC; split; omega; split <;> omega
  omega
theorem scan_four {parts : Int} {os : List OV} {k : Nat} (hk : k ≤ os.length) (h : (scanS parts ((os.map OV.o).take k)).bad = none) : ∀ i, i < k → (os[i]!).o.ins.length ≤ 4 := by
  intro i hi
  have h1 := (one_zero (scan_good h (k := i) (by simp; omega)).2).2.2.1
  have h2 : ((os.map OV.o).take k)[i]! = (os[i]!).o := by rw [take_get (by simpa using hk) hi, getO os (by omega)]
  rw [h2] at h1
  exact ins_four h1

def skN (j a b : Nat) : Nat := if j = 0 then a else b
theorem loose_hit {os : List GO} {n : Nat} (hn : n < os.length) (h : ∀ j, j < n → looseP os j = false) (h2 : looseP os n = true) : looseAt os = some n := by
  unfold looseAt
  rw [List.find?_range_eq_some]
  exact ⟨h2, by simpa using hn, fun j hj => by rw [h j hj]; rfl⟩
theorem loose_none {os : List GO} (h : ∀ j, j < os.length → looseP os j = false) : looseAt os = none := by
  unfold looseAt
  rw [List.find?_range_eq_none]
  exact fun j hj => by rw [h j hj]; rfl
theorem check_loose {parts : Int} {os : List GO} (h1 : 1 ≤ parts ∧ parts ≤ 4) (hl : os.length ≤ 24) (h : (scanS parts os).bad = none) {n : Nat} (hn : looseAt os = some n) : checkC parts os = ((n : Int), 54) := by
  unfold checkC
  rw [if_pos h1, if_pos hl, h, hn]
theorem check_ends {pn : Nat} {os : List GO} (h1 : 1 ≤ (pn : Int) ∧ (pn : Int) ≤ 4) (hl : os.length ≤ 24) (h : (scanS (pn : Int) os).bad = none) (hn : looseAt os = none) {e : Int} (he : endsC pn os = e) : checkC (pn : Int) os = (0, e) := by
  unfold checkC
  rw [if_pos h1, if_pos hl, h, hn]
  simp only [Int.toNat_natCast, he]

end Go.Proofs.Ytbcllgddogghbaa
