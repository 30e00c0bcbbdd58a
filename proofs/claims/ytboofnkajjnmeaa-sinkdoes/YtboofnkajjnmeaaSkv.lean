/-
  How Open of the program's sink compares two names: the closure.
-/
import Derived.Test.YtboofnkajjnmeaaTk0
import Derived.Shelf.SlSortCmp.WholeK
import Derived.Shelf.SlSortCmp.NoneTotal
import Derived.Test.YtboofnkajjnmeaaSkt
import Derived.Ground.SlsfProg
namespace Go.Proofs.Ytboofnkajjnmeaa
open Go.RowKit Go.Shelf Go.Sort Go.Lib

def nmCmp (x y : Int × Int) : Int := orC (cmpC x.1 y.1) (cmpC x.2 y.2)
set_option maxRecDepth 100000 in
set_option maxHeartbeats 2000000 in
theorem openF_any {W : World} {x y : Int × Int} :
    Calls Try.prog 64 #[.agg (nmC x).toArray, .agg (nmC y).toArray] W fun e w' => e = .returned (.int .i64 (nmCmp x y)) ∧ ∃ q os', w' = grow (W.drewN q) os' := by
  obtain ⟨a, b⟩ := x
  obtain ⟨c, d⟩ := y
  unfold nmC nmCmp
  simp only
  obtain ⟨V, hV⟩ : ∃ V, V = W.alloc (.cells #[.int .i64 a, .int .i64 b] 55 (0, 0)) := ⟨_, rfl⟩
  have HA : Hid (V.heap[W.heap.size]? = some (.cells #[.int .i64 a, .int .i64 b] 55 (0, 0))) := hide (by rw [hV]; exact heap_alloc_new W _)
  have HBA : Hid (Below W.heap.size W V) := hide (by rw [hV]; exact alloc_below _ _)
  obtain ⟨bA, hbA⟩ : ∃ bA, W.heap.size = bA := ⟨_, rfl⟩
  rw [hbA] at HA HBA
  have HZbA := hide hbA
  obtain ⟨Z, hZ⟩ : ∃ Z, Z = V.alloc (.cells #[.int .i64 c, .int .i64 d] 55 (0, 0)) := ⟨_, rfl⟩
  have HB : Hid (Z.heap[V.heap.size]? = some (.cells #[.int .i64 c, .int .i64 d] 55 (0, 0))) := hide (by rw [hZ]; exact heap_alloc_new V _)
  have HBB : Hid (Below V.heap.size V Z) := hide (by rw [hZ]; exact alloc_below _ _)
  obtain ⟨bB, hbB⟩ : ∃ bB, V.heap.size = bB := ⟨_, rfl⟩
  rw [hbB] at HB HBB
  have HZbB := hide hbB
  have hbb : bB = bA + 1 := by rw [← hbB, hV]; simp; exact HZbA.out
  rw [hbb] at HB HBB HZbB hbB
  have HG : Hid (Z = grow W #[.cells #[.int .i64 a, .int .i64 b] 55 (0, 0), .cells #[.int .i64 c, .int .i64 d] 55 (0, 0)]) := hide (by rw [hZ, hV, alloc_eq_grow, alloc_eq_grow, grow_grow]; rfl)
  have HA2 := hide (below_box (by rw [hZ]; exact alloc_below _ _) HA.out : Z.heap[bA]? = _)
  go_enter Try.func64, Try.ntmps64
  go_upto_region 1 with fail
  rw [← hV]
  try rw [hbA]
  rw [← hZ]
  try rw [hbB]
  clear hV hbA hZ hbB hbb
  have u0 := cellB HA2.out (i := 0) rfl
  have u1 := cellB HA2.out (i := 1) rfl
  have v0 := cellB HB.out (i := 0) rfl
  have v1 := cellB HB.out (i := 1) rfl
  refine wp_region_held_drew (S := fun w9 => Below Z.heap.size Z w9) (by kernel_rfl) (Below.refl _ Z).drew (fun hHeld => ?_)
  refine tb 0 ?_ rfl (by kernel_rfl) (fun _ _ _ h => h) (by assumption) ?_ ?_
  rotate_left
  · intro w hSw
    have l0 := cell_later hSw u0
    have l1 := cell_later hSw u1
    have m0 := cell_later hSw v0
    have m1 := cell_later hSw v1
    go_simp
    all_goals with_reducible rfl
  simp only [Act.put]
  refine tb 1 ?_ rfl (by kernel_rfl) (fun _ _ _ h => h) (by assumption) ?_ ?_
  rotate_left
  · intro w hSw
    have l0 := cell_later hSw u0
    have l1 := cell_later hSw u1
    have m0 := cell_later hSw v0
    have m1 := cell_later hSw v1
    go_simp
    all_goals with_reducible rfl
  simp only [Act.put]
  refine tb 2 ?_ rfl (by kernel_rfl) (fun _ _ _ h => h) (by assumption) ?_ ?_
  rotate_left
  · intro w hSw
    have l0 := cell_later hSw u0
    have l1 := cell_later hSw u1
    have m0 := cell_later hSw v0
    have m1 := cell_later hSw v1
    go_simp
    all_goals with_reducible rfl
  simp only [Act.put]
  refine tb 3 ?_ rfl (by kernel_rfl) (fun _ _ _ h => h) (by assumption) ?_ ?_
  rotate_left
  · intro w hSw
    have l0 := cell_later hSw u0
    have l1 := cell_later hSw u1
    have m0 := cell_later hSw v0
    have m1 := cell_later hSw v1
    go_simp
    all_goals with_reducible rfl
  simp only [Act.put]
  refine tb 5 ?_ rfl (by kernel_rfl) (fun _ _ _ h => h) (by assumption) ?_ ?_
  rotate_left
  · intro w hSw
    have l0 := cell_later hSw u0
    have l1 := cell_later hSw u1
    have m0 := cell_later hSw v0
    have m1 := cell_later hSw v1
    go_simp
    all_goals with_reducible rfl
  simp only [Act.put]
  refine tb 6 ?_ rfl (by kernel_rfl) (fun _ _ _ h => h) (by assumption) ?_ ?_
  rotate_left
  · intro w hSw
    have l0 := cell_later hSw u0
    have l1 := cell_later hSw u1
    have m0 := cell_later hSw v0
    have m1 := cell_later hSw v1
    go_simp
    all_goals with_reducible rfl
  simp only [Act.put]
  refine tb 7 ?_ rfl (by kernel_rfl) (fun _ _ _ h => h) (by assumption) ?_ ?_
  rotate_left
  · intro w hSw
    have l0 := cell_later hSw u0
    have l1 := cell_later hSw u1
    have m0 := cell_later hSw v0
    have m1 := cell_later hSw v1
    go_simp
    all_goals with_reducible rfl
  simp only [Act.put]
  refine tb 8 ?_ rfl (by kernel_rfl) (fun _ _ _ h => h) (by assumption) ?_ ?_
  rotate_left
  · intro w hSw
    have l0 := cell_later hSw u0
    have l1 := cell_later hSw u1
    have m0 := cell_later hSw v0
    have m1 := cell_later hSw v1
    go_simp
    all_goals with_reducible rfl
  simp only [Act.put]
  refine rr 4 (o := _) rfl (by kernel_rfl) (fun K hK => ?_)
  go_simp
  refine cmp_any.mono ?_
  rintro _ _ ⟨rfl, rfl⟩
  go_wp2_with fail
  refine hK.out _ _ ((Below.refl _ Z).drew) (fun hHeld => ?_)
  clear hK
  refine rr 9 (o := _) rfl (by kernel_rfl) (fun K hK => ?_)
  go_simp
  refine cmp_any.mono ?_
  rintro _ _ ⟨rfl, rfl⟩
  go_wp2_with fail
  refine hK.out _ _ ((Below.refl _ Z).drew) (fun hHeld => ?_)
  clear hK
  refine rr 10 (o := _) rfl (by kernel_rfl) (fun K hK => ?_)
  go_simp
  refine hK.out _ _ ((alloc_below Z _).drew) (fun hHeld => ?_)
  clear hK
  refine rr 11 (o := _) rfl (by kernel_rfl) (fun K hK => ?_)
  go_simp
  refine (or_any (W := (Z.alloc (.cells #[.int .i64 (cmpC a c), .int .i64 (cmpC b d)] 3 (0, 0))).drew) (cellB (i := 0) (show (Z.alloc (.cells #[.int .i64 (cmpC a c), .int .i64 (cmpC b d)] 3 (0, 0))).heap[Z.heap.size]? = _ from heap_alloc_new Z _) rfl) (cellB (i := 1) (show (Z.alloc (.cells #[.int .i64 (cmpC a c), .int .i64 (cmpC b d)] 3 (0, 0))).heap[Z.heap.size]? = _ from heap_alloc_new Z _) rfl)).mono ?_
  rintro _ _ ⟨rfl, rfl⟩
  go_wp2_with fail
  refine hK.out _ _ ((alloc_below Z _).drew) (fun hHeld => ?_)
  clear hK
  refine rr 12 (o := _) rfl (by kernel_rfl) (fun K hK => ?_)
  go_simp
  refine hK.out _ _ ((alloc_below Z _).drew) (fun hHeld => ?_)
  clear hK
  refine wpAnyH_done (by kernel_rfl) ?_ _
  go_wp2
  go_ret
  exact ⟨rfl, 1, _, by rw [HG.out, alloc_eq_grow, grow_grow]; rfl⟩
end Go.Proofs.Ytboofnkajjnmeaa

/-
  slices.SortedFunc of the names in the sink's map: by epoch, then by Id; Open of the program's sink.
-/
namespace Go.Proofs.Ytboofnkajjnmeaa
open Go.RowKit Go.Shelf Go.Sort Go.Lib
def Try.sortfL_ren : Go.Shelf.Ren := ⟨fun | 6 => 84 | 15 => 90 | 14 => 89 | 28 => 100 | 29 => 101 | 20 => 92 | 21 => 93 | 22 => 94 | 23 => 95 | 24 => 96 | 25 => 97 | 26 => 98 | 27 => 99 | 46 => 102 | 47 => 103 | 48 => 104 | 49 => 105 | 50 => 106 | 57 => 107 | n => n, fun | 22 => 69 | 24 => 55 | 25 => 98 | 3 => 3 | 39 => 103 | 0 => 0 | 53 => 122 | 55 => 124 | 4 => 4 | 46 => 116 | 45 => 115 | 50 => 84 | 5 => 5 | 9 => 9 | 66 => 125 | 70 => 129 | 76 => 131 | 77 => 132 | n => n, fun | n => n⟩
theorem Try.sortfL : Go.Proofs.SlLaysF0.n6 Try.prog Try.sortfL_ren := {
  mixed := by kernel_rfl
  f6 := ⟨Try.f84.name, by decide, Try.func84.trans (congrArg some (by kernel_rfl))⟩
  f14 := ⟨Try.f89.name, by decide, Try.func89.trans (congrArg some (by kernel_rfl))⟩
  f15 := Try.func90.trans (congrArg some (by kernel_rfl))
  f20 := ⟨Try.f92.name, by decide, Try.func92.trans (congrArg some (by kernel_rfl))⟩
  f21 := ⟨Try.f93.name, by decide, Try.func93.trans (congrArg some (by kernel_rfl))⟩
  f22 := ⟨Try.f94.name, by decide, Try.func94.trans (congrArg some (by kernel_rfl))⟩
  f23 := ⟨Try.f95.name, by decide, Try.func95.trans (congrArg some (by kernel_rfl))⟩
  f24 := ⟨Try.f96.name, by decide, Try.func96.trans (congrArg some (by kernel_rfl))⟩
  f25 := ⟨Try.f97.name, by decide, Try.func97.trans (congrArg some (by kernel_rfl))⟩
  f26 := ⟨Try.f98.name, by decide, Try.func98.trans (congrArg some (by kernel_rfl))⟩
  f27 := ⟨Try.f99.name, by decide, Try.func99.trans (congrArg some (by kernel_rfl))⟩
  f28 := Try.func100.trans (congrArg some (by kernel_rfl))
  f29 := Try.func101.trans (congrArg some (by kernel_rfl))
  f46 := ⟨Try.f102.name, by decide, Try.func102.trans (congrArg some (by kernel_rfl))⟩
  f47 := Try.func103.trans (congrArg some (by kernel_rfl))
  f48 := Try.func104.trans (congrArg some (by kernel_rfl))
  f49 := ⟨Try.f105.name, by decide, Try.func105.trans (congrArg some (by kernel_rfl))⟩
  f50 := ⟨Try.f106.name, by decide, Try.func106.trans (congrArg some (by kernel_rfl))⟩
  f57 := ⟨Try.f107.name, by decide, Try.func107.trans (congrArg some (by kernel_rfl))⟩
  t0 := Try.underlying0
  a0 := Try.isAgg0
  z0 := Try.sizeOf0
  v0 := Try.zeroValue0
  t3 := Try.underlying3
  a3 := Try.isAgg3
  z3 := Try.sizeOf3
  v3 := Try.zeroValue3
  t4 := Try.underlying4
  a4 := Try.isAgg4
  z4 := Try.sizeOf4
  v4 := Try.zeroValue4
  t5 := Try.underlying5
  a5 := Try.isAgg5
  z5 := Try.sizeOf5
  v5 := Try.zeroValue5
  t9 := Try.underlying9
  a9 := Try.isAgg9
  z9 := Try.sizeOf9
  v9 := Try.zeroValue9
  t22 := Try.underlying69
  a22 := Try.isAgg69
  z22 := Try.sizeOf69
  v22 := Try.zeroValue69
  t25 := Try.underlying98
  a25 := Try.isAgg98
  z25 := Try.sizeOf98
  v25 := Try.zeroValue98
  t39 := Try.underlying103
  a39 := Try.isAgg103
  z39 := Try.sizeOf103
  v39 := Try.zeroValue103
  t45 := Try.underlying115
  a45 := Try.isAgg115
  z45 := Try.sizeOf115
  v45 := Try.zeroValue115
  t46 := Try.underlying116
  a46 := Try.isAgg116
  z46 := Try.sizeOf116
  v46 := Try.zeroValue116
  t50 := Try.underlying84
  a50 := Try.isAgg84
  z50 := Try.sizeOf84
  v50 := Try.zeroValue84
  t53 := Try.underlying122
  a53 := Try.isAgg122
  z53 := Try.sizeOf122
  v53 := Try.zeroValue122
  t55 := Try.underlying124
  a55 := Try.isAgg124
  z55 := Try.sizeOf124
  v55 := Try.zeroValue124
  t66 := Try.underlying125
  a66 := Try.isAgg125
  z66 := Try.sizeOf125
  v66 := Try.zeroValue125
  t70 := Try.underlying129
  a70 := Try.isAgg129
  z70 := Try.sizeOf129
  v70 := Try.zeroValue129
  t76 := Try.underlying131
  a76 := Try.isAgg131
  z76 := Try.sizeOf131
  v76 := Try.zeroValue131
  t77 := Try.underlying132
  a77 := Try.isAgg132
  z77 := Try.sizeOf132
  v77 := Try.zeroValue132 }

theorem ltN (x y : Int × Int) : ltOf nmCmp x y = decide (x.1 < y.1 ∨ (x.1 = y.1 ∧ x.2 < y.2)) := by
  unfold ltOf nmCmp orC cmpC
  by_cases h1 : x.1 < y.1
  · simp [h1]
  · by_cases h2 : y.1 < x.1
    · have h3 : ¬ x.1 = y.1 := by omega
      simp [h1, h2, h3]
    · have h3 : x.1 = y.1 := by omega
      by_cases h4 : x.2 < y.2
      · simp [h3, h4]
      · by_cases h5 : y.2 < x.2 <;> simp [h3, h4, h5]
theorem swoN : SWO (ltOf nmCmp) where
  irrefl x := by rw [ltN]; simp
  trans x y z h1 h2 := by rw [ltN] at *; simp at *; omega
  ntrans x y z h1 h2 := by rw [ltN] at *; simp at *; omega
theorem totN (x y : Int × Int) (h1 : ltOf nmCmp x y = false) (h2 : ltOf nmCmp y x = false) : x = y := by
  rw [ltN] at *
  simp at *
  obtain ⟨a, b⟩ := x
  obtain ⟨c, d⟩ := y
  simp only [Prod.mk.injEq]
  simp only at h1 h2
  omega
theorem nm_one (x : Int × Int) : ∀ v ∈ nmC x, v.oneCell' = true := by
  intro v hv
  simp [nmC] at hv
  rcases hv with rfl | rfl <;> rfl
theorem nm_sorted {ss T : List (Int × Int)} (hp : ss.Perm T) (hT : T.Pairwise (fun a b => ltOf nmCmp a b = true)) : ss.mergeSort (fun x y => !(ltOf nmCmp) y x) = T := by
  have tr : ∀ a b c : Int × Int, (!(ltOf nmCmp) b a) = true → (!(ltOf nmCmp) c b) = true → (!(ltOf nmCmp) c a) = true := fun a b c h1 h2 => by
    rw [ltN] at *
    simp at *
    omega
  have hto : ∀ a b : Int × Int, ((!(ltOf nmCmp) b a) || (!(ltOf nmCmp) a b)) = true := fun a b => by
    rw [ltN, ltN]
    simp
    omega
  have h1 := List.pairwise_mergeSort (le := fun x y => !(ltOf nmCmp) y x) tr hto ss
  have h2 : T.Pairwise (fun a b => (!(ltOf nmCmp) b a) = true) := hT.imp fun {a b} h => by
    rw [ltN] at *
    simp at *
    omega
  exact List.Perm.eq_of_pairwise (le := fun x y => (!(ltOf nmCmp) y x) = true) (fun a b _ _ h1 h2 => totN a b (by simpa using h2) (by simpa using h1)) h1 h2 ((List.mergeSort_perm ss _).trans hp)
theorem nm_flat (ds : List (Int × Int)) {t : Nat} (ht : t < ds.length * 2) : (ds.flatMap nmC)[t]? = some ((nmC ds[t / 2]!)[t % 2]!) := by
  have e := flat_get ds (size := 2) (cells := nmC) (fun _ _ => rfl) (t / 2) (t % 2) (by omega) (Nat.mod_lt _ (by decide))
  rw [show t / 2 * 2 + t % 2 = t from Nat.div_add_mod' t 2] at e
  rw [e]
  have h5 : t % 2 < (nmC ds[t / 2]!).length := Nat.mod_lt _ (by decide)
  rw [List.getElem?_eq_getElem h5]
  exact congrArg some (getElem!_pos (nmC ds[t / 2]!) (t % 2) h5).symm
theorem holds_nm {W : World} {base n cap g : Nat} {ds : List (Int × Int)} (h : W.ownsRow base 55 2 (.slice (some ⟨g, 0, none⟩) n cap) n (ds.flatMap nmC)) (hl : ds.length = n) : HoldsK nmC 2 W g 0 ds.toArray := by
  intro t ht
  rw [size_flatK] at ht
  have ht' : t < ds.length * 2 := by simpa using ht
  obtain ⟨cur, hcur⟩ := (own_block_lt h (b := g) rfl).2
  refine ⟨?_, frB hcur⟩
  rw [get_flatK _ _ _ _ ht]
  rw [h.cellAt (0 + t) (by omega), Nat.zero_add, nm_flat ds ht']
  have h1 : t / 2 < ds.length := by omega
  have e2 : ds.toArray[t / 2]! = ds[t / 2]! := by simp [h1]
  rw [e2]
  rfl
theorem heap_sortN {W : World} {g k : Nat} {cur : Array Value} {e : TypeId} (hg : W.heap[g]? = some (.cells cur e (0, 0))) (d : Array (Int × Int)) (os : Array Obj) : (sortWorldK nmC 2 W g 0 k d os).heap[g]? = some (.cells (putCells id 0 (flatK nmC 2 d) cur) e (0, 0)) := by
  have hlt := (Array.getElem?_eq_some_iff.1 hg).1
  unfold sortWorldK grow putRowK putRow mapBlock Sort.ahead
  simp only
  rw [Array.getElem?_append_left (by simpa using hlt), Array.getElem?_modify, if_pos rfl, hg]
  rfl
theorem sort_grownN {W : World} {g k : Nat} (d : Array (Int × Int)) (os : Array Obj) : W.grownBy (sortWorldK nmC 2 W g 0 k d os) (some g) := by
  refine ⟨rfl, rfl, rfl, ?_, fun i hi hne => ?_⟩
  · unfold sortWorldK grow putRowK putRow mapBlock Sort.ahead
    simp
  · unfold sortWorldK grow putRowK putRow mapBlock Sort.ahead
    simp only
    rw [Array.getElem?_append_left (by simpa using hi), Array.getElem?_modify, if_neg (fun e => hne (by rw [e]))]
theorem own_backN {W : World} {base n k : Nat} {e : TypeId} {g cap : Nat} {cur : Array Value} {xs : List Value} (hg : W.heap[g]? = some (.cells cur e (0, 0))) (hb : base ≤ g) (hn : n ≤ cap) (hc : cap ≤ maxLen) (hs : cur.size = cap * k) (ht : cur.toList.take (n * k) = xs) :
    W.ownsRow base e k (.slice (some ⟨g, 0, none⟩) n cap) n xs := by
  refine ⟨?_, .inr ⟨g, cap, cur, rfl, hb, hg, hn, hc, hs, ht⟩⟩
  rw [← ht, List.length_take, Array.length_toList, hs]
  have := Nat.mul_le_mul_right k hn
  omega
theorem sorted_ownN {W : World} {base n cap g k : Nat} {xs : List Value} (h : W.ownsRow base 55 2 (.slice (some ⟨g, 0, none⟩) n cap) n xs) {d : List (Int × Int)} (hd : d.length = n) (os : Array Obj) :
    (sortWorldK nmC 2 W g 0 k d.toArray os).ownsRow base 55 2 (.slice (some ⟨g, 0, none⟩) n cap) n (d.flatMap nmC) := by
  rcases h.2 with ⟨he, _⟩ | ⟨g', cap', cur, he, hb, hg, hn, hcm, hcur, htk⟩
  · cases he
  · simp only [Value.slice.injEq, Option.some.injEq, Addr.mk.injEq, and_true, true_and] at he
    obtain ⟨rfl, rfl⟩ := he
    refine own_backN (heap_sortN hg d.toArray os) hb hn hcm (by simp [putCells, hcur]) ?_
    have hfl : (d.flatMap nmC).length = n * 2 := by rw [flat_len (size := 2) d (fun _ _ => rfl), hd]
    have hle := Nat.mul_le_mul_right 2 hn
    apply List.ext_getElem?
    intro t
    by_cases ht : t < n * 2
    · rw [List.getElem?_take_of_lt ht, Array.getElem?_toList]
      have hc : t < cur.size := by omega
      have h1 : t / 2 < d.length := by omega
      unfold putCells
      rw [Array.getElem?_mapIdx, Array.getElem?_eq_getElem hc]
      simp only [Option.map_some, Nat.sub_zero, Nat.zero_le, true_and, Nat.zero_add, size_flatK, id]
      rw [if_pos (by simpa [hd] using ht), get_flatK _ _ _ _ (by simpa [hd] using ht), nm_flat d (by omega)]
      have e2 : d.toArray[t / 2]! = d[t / 2]! := by simp [h1]
      rw [e2]
    · rw [List.getElem?_eq_none (by simp; omega), List.getElem?_eq_none (by omega)]
set_option maxHeartbeats 1000000 in
theorem sortfunc_any {W : World} {base n cap : Nat} {p : Option Addr} {ds T : List (Int × Int)} (h : W.ownsRow base 55 2 (.slice p n cap) n (ds.flatMap nmC)) (hl : ds.length = n) (hp : ds.Perm T) (hT : T.Pairwise (fun a b => ltOf nmCmp a b = true)) (hn : n ≤ 2199023255552) :
    Calls Try.prog 84 #[.slice p n cap, .func (.func 64) #[] #[]] W fun e w' => e = .returned (.tuple #[]) ∧ w'.ownsRow base 55 2 (.slice p n cap) n (T.flatMap nmC) ∧ W.grownBy w' (Value.slice p n cap).ownBlock := by
  by_cases h0 : n = 0
  · subst h0
    have hds : ds = [] := List.eq_nil_of_length_eq_zero hl
    subst hds
    obtain rfl : T = [] := List.nil_perm.1 hp
    refine (AnyF.slices_SortFunc_none Try.sortfL p cap _ W).mono ?_
    rintro e w' ⟨rfl, rfl⟩
    exact ⟨rfl, h, ⟨rfl, rfl, rfl, Nat.le_refl _, fun _ _ _ => rfl⟩⟩
  · obtain ⟨g, rfl⟩ : ∃ g, p = some ⟨g, 0, none⟩ := by
      obtain ⟨g, cap', he, _⟩ := h.form (by omega)
      simp only [Value.slice.injEq, true_and] at he
      exact ⟨g, he.1⟩
    have hg := (own_block_lt h (b := g) rfl).1
    have hH := holds_nm h hl
    have hs : ds.toArray.size = n := by simpa using hl
    have hcon := AnyQ.slices_SortFunc_total Try.sortfL 2 Try.isAgg55 Try.sizeOf55 nmC (fun _ => rfl) nm_one nmCmp swoN 64 #[] g 0 cap ds.toArray W (enters_of Try.func64 (by kernel_rfl) rfl) (fun _ _ _ _ x y => openF_any) hH hg (by omega) totN
    rw [hs] at hcon
    refine hcon.mono ?_
    rintro e w' ⟨rfl, k, os, rfl⟩
    rw [show ds.toArray.toList = ds from rfl, nm_sorted hp hT]
    exact ⟨rfl, sorted_ownN h (by rw [← hp.length_eq, hl]) os, sort_grownN _ os⟩
end Go.Proofs.Ytboofnkajjnmeaa
