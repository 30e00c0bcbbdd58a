/-
  RunGrows: with more records of some partitions what comes out begins with what it was. The condition: what is handed in holds at most 1048576 values together.
-/
import Derived.Test.YtifldnpccgbnkaaGreatRbg
namespace Go.Proofs.YtifldnpccgbnkaaGreat
open Go.RowKit Go.Shelf

theorem LRow.first {α : Type} [Inhabited α] {cells : α → List Value} {n : Nat} {W : World} {p : Option Addr} {cap : Nat} {os : List α} (h : LRow cells n W p cap os) {a : List α} (ha : a <+: os) : LRow cells n W p cap a := by
  obtain ⟨t, rfl⟩ := ha
  refine ⟨by have := h.le; rw [List.length_append] at this; omega, h.top, h.nil, fun i hi => ?_⟩
  obtain ⟨g, o, e, hc⟩ := h.cell i (by rw [List.length_append]; omega)
  refine ⟨g, o, e, fun j hj => ?_⟩
  rw [hc j hj, getElem!_pos a i hi, getElem!_pos (a ++ t) i (by rw [List.length_append]; omega), List.getElem_append_left]
def longL : List (List RC) → List (List RC) → List (List RC)
  | [], _ => []
  | a :: ks, bs => (a ++ bs.headD []) :: longL ks bs.tail
theorem long_len : ∀ ks bs, (longL ks bs).length = ks.length
  | [], _ => rfl
  | _ :: ks, bs => by simp [longL, long_len ks bs.tail]
theorem nil_get (i : Nat) : ([] : List (List RC))[i]! = [] := by rw [getElem!_neg _ i (by simp)]; rfl
theorem long_get : ∀ (ks bs : List (List RC)) (i : Nat), i < ks.length → (longL ks bs)[i]! = ks[i]! ++ bs[i]!
  | a :: ks, bs, 0, _ => by
    cases bs with
    | nil => rw [nil_get]; rfl
    | cons b bs => rfl
  | a :: ks, bs, i + 1, h => by
    have ih := long_get ks bs.tail i (by simpa using h)
    cases bs with
    | nil =>
      rw [nil_get]
      rw [show ([] : List (List RC)).tail = [] from rfl, nil_get] at ih
      exact ih
    | cons b bs => exact ih
theorem long_grow (ks bs : List (List RC)) : Grow ks (longL ks bs) := grow_of (long_len ks bs).symm (fun i hi => by rw [long_get ks bs i hi]; exact List.prefix_append _ _)
theorem long_sum : ∀ ks bs, ((longL ks bs).map List.length).sum ≤ weightL ks + weightL bs
  | [], bs => Nat.zero_le _
  | a :: ks, bs => by
    have ih := long_sum ks bs.tail
    cases bs with
    | nil =>
      rw [show ([] : List (List RC)).tail = [] from rfl] at ih
      simp only [longL, List.map_cons, List.sum_cons, weightL, List.headD_nil, List.append_nil, List.map_nil, List.sum_nil, List.tail_nil] at ih ⊢
      omega
    | cons b bs =>
      simp only [longL, List.map_cons, List.sum_cons, weightL, List.headD_cons, List.length_append, List.tail_cons] at ih ⊢
      omega
theorem plain_sum : ∀ ls : List (List RC), (ls.map List.length).sum ≤ weightL ls
  | [] => Nat.le_refl _
  | l :: ls => by
    have := plain_sum ls
    simp only [List.map_cons, List.sum_cons, weightL] at this ⊢
    omega
theorem mem_sum : ∀ (ls : List (List RC)), ∀ l ∈ ls, l.length ≤ (ls.map List.length).sum
  | [], l, h => by cases h
  | a :: ls, l, h => by
    rw [List.mem_cons] at h
    simp only [List.map_cons, List.sum_cons]
    rcases h with rfl | h
    · omega
    · have := mem_sum ls l h
      omega
theorem long_fine {ks bs : List (List RC)} (ha : ∀ l ∈ ks, ∀ r ∈ l, r.fine) (hb : ∀ l ∈ bs, ∀ r ∈ l, r.fine) : ∀ l ∈ longL ks bs, ∀ r ∈ l, r.fine := by
  intro l hl r hr
  obtain ⟨i, hi, rfl⟩ := List.getElem_of_mem hl
  have hi2 : i < ks.length := by rw [long_len] at hi; exact hi
  rw [← getElem!_pos _ i hi, long_get ks bs i hi2, List.mem_append] at hr
  rcases hr with hr | hr
  · exact get_fine ha i r hr
  · exact get_fine hb i r hr
theorem run_full {W : World} {parts : Int} {p q : Option Addr} {cap qc n L s f j : Nat} {os : List OV} {xs : List SV} {ls : List (List RC)} (g : Good parts (os.map OV.o)) (hLp : (L : Int) = parts) (ho : GRow W p cap os) (hn : os.length = n) (hx : LL W q qc xs) (hxl : xs.map SV.rs = ls) (hL : xs.length = L) (hfa : faultC parts (os.map OV.o) L = 0) (hof : ∀ o ∈ os.map OV.o, o.fine) (hf : ∀ l ∈ ls, ∀ r ∈ l, r.fine) (hT : (ls.map List.length).sum ≤ 1048576) (hs : firstO sinkF (os.map OV.o) = some s) (hsn : s < n) (hin : ((os.map OV.o)[s]!).ins = [⟨(f : Int), (j : Int)⟩]) (hfs : f < s) (hjp : (j : Int) < portsO (os.map OV.o) f) :
    Calls Tryz.prog 4 #[.agg #[.int .i64 parts, .slice p n cap], .slice q L qc] W fun e w' => ∃ (yp : Option Addr) (yc N : Nat), e = .returned (.tuple #[.slice yp N yc, .int .i64 0]) ∧ (((dnC ls (os.map OV.o))[f]!).ports[j]!).length = N ∧ RRow w' yp yc (((dnC ls (os.map OV.o))[f]!).ports[j]!) ∧ Below W.heap.size W w' := by
  subst hxl
  have hml : (os.map OV.o).length = n := by rw [List.length_map]; exact hn
  have hfn : f + 1 ≤ (os.map OV.o).length := by omega
  have hg1 : (dnC (xs.map SV.rs) ((os.map OV.o).take (f + 1)))[f]! = (dnC (xs.map SV.rs) (os.map OV.o))[f]! := dn_take_get (by omega) hfn
  have hos : (os.map OV.o)[s]! = (os[s]!).o := getO os (by omega)
  rw [hos] at hin
  refine (run_ok (rf := rfC) (dn := dnC (xs.map SV.rs) ((os.map OV.o).take (f + 1))) (f := f) (j := j) ho hn hx hL hfa hs hsn (by rw [hin]; exact Nat.zero_lt_one) (by rw [hin]; rfl) hfs ?_ ?_ ?_).mono ?_
  · rw [List.map_take]
    exact fits_dn g (by rw [List.length_map, hL]; exact hLp) hof hf hT hfn
  · rw [hg1, dn_ports (by omega)]
    omega
  · intro x hx2
    have := mem_sum (xs.map SV.rs) x.rs (List.mem_map_of_mem hx2)
    unfold lenB
    omega
  · rintro _ w' ⟨y, rfl, h1, h2, h3⟩
    rw [hg1] at h2
    rw [← h2]
    exact ⟨y.p, y.c, y.rs.length, rfl, rfl, h1.ok, h3⟩
theorem ports_full {W : World} {parts : Int} {p q : Option Addr} {cap qc n L k : Nat} {os : List OV} {xs : List SV} {ls : List (List RC)} (g : Good parts (os.map OV.o)) (hLp : (L : Int) = parts) (ho : GRow W p cap os) (hn : os.length = n) (hx : LL W q qc xs) (hxl : xs.map SV.rs = ls) (hL : xs.length = L) (hfa : faultC parts (os.map OV.o) L = 0) (hof : ∀ o ∈ os.map OV.o, o.fine) (hf : ∀ l ∈ ls, ∀ r ∈ l, r.fine) (hT : (ls.map List.length).sum ≤ 1048576) (hk : k < n) :
    Calls Tryz.prog 8 #[.agg #[.int .i64 parts, .slice p n cap], .int .i64 (k : Int), .slice q L qc] W fun e w' => ∃ (M : Nat) (pp : Option Addr) (pc : Nat) (ys : List SV), e = .returned (.tuple #[.slice pp M pc, .int .i64 0]) ∧ ys.length = M ∧ (M : Int) = portsO (os.map OV.o) k ∧ LL w' pp pc ys ∧ ys.map SV.rs = ((dnC ls (os.map OV.o))[k]!).ports ∧ Below W.heap.size W w' := by
  subst hxl
  have hml : (os.map OV.o).length = n := by rw [List.length_map]; exact hn
  have hfn : k + 1 ≤ (os.map OV.o).length := by omega
  have hg1 : (dnC (xs.map SV.rs) ((os.map OV.o).take (k + 1)))[k]! = (dnC (xs.map SV.rs) (os.map OV.o))[k]! := dn_take_get (by omega) hfn
  refine (ports_ok (rf := rfC) (dn := dnC (xs.map SV.rs) ((os.map OV.o).take (k + 1))) ho hn hx hL hfa hk ?_ ?_).mono ?_
  · rw [List.map_take]
    exact fits_dn g (by rw [List.length_map, hL]; exact hLp) hof hf hT hfn
  · intro x hx2
    have := mem_sum (xs.map SV.rs) x.rs (List.mem_map_of_mem hx2)
    unfold lenB
    omega
  · rintro _ w' ⟨M, pp, pc, ys, rfl, h1, h2, h3, h4⟩
    rw [hg1] at h3
    refine ⟨M, pp, pc, ys, rfl, h1, ?_, h2, h3, h4⟩
    have h5 := congrArg List.length h3
    rw [List.length_map, h1, dn_ports (by omega)] at h5
    have := (portsC_le ((os.map OV.o)[k]!).kind ((os.map OV.o)[k]!).arg).1
    unfold portsO at h5 ⊢
    omega
end Go.Proofs.YtifldnpccgbnkaaGreat
namespace Go.Proofs.YtifldnpccgbnkaaGreat.runGrows
open Go.RowKit Go.Shelf Go.Proofs.YtifldnpccgbnkaaGreat Go.ChangeShapes Go.WideShapes Go.ChangeAt

end Go.Proofs.YtifldnpccgbnkaaGreat.runGrows
