/-
  The reference's SameLists of two lists of lists that are the same. No conditions.
-/
import Derived.Test.YtbcllgddogghbaaRrc
import Derived.Test.YtbcllgddogghbaaQui
namespace Go.Proofs.Ytbcllgddogghbaa
open Go.RowKit Go.Shelf

attribute [local irreducible] wpQuiet in
set_option maxRecDepth 100000 in
set_option maxHeartbeats 8000000 in
theorem samelists_any {W : World} {p q : Option Addr} {c d n : Nat} {xs ys : List SV} (hx : LL W p c xs) (hy : LL W q d ys) (hn : xs.length = n) (hs : xs.map SV.rs = ys.map SV.rs) :
    Calls Try.prog 22 #[.slice p n c, .slice q n d] W fun e w' => e = .returned (.bool true) ∧ Below W.heap.size W w' := by
  have hm : ys.length = n := by have := congrArg List.length hs; rw [List.length_map, List.length_map] at this; omega
  have i1 := hx.row.le
  have i2 := hx.row.top
  have i3 := hy.row.le
  have i4 := hy.row.top
  rw [hn] at i1
  rw [hm] at i3
  have HX := hide hx
  have HY := hide hy
  have HN := hide hn
  have HM := hide hm
  have HS := hide hs
  clear hx hy hn hm hs
  go_enter Try.func22, Try.ntmps22
  go_wp2_with fail
  go_loopw [5] (fun i wr => ∃ k : Nat, k ≤ n ∧ i = .int .i64 (k : Int) ∧ Hid (Below W.heap.size W wr)) (fun i _ => n - (intOf i).toNat)
  case atStart => exact ⟨0, Nat.zero_le _, rfl, hide (Below.refl _ _)⟩
  case round =>
    obtain ⟨k, hk, rfl, HB⟩ := hrel
    by_cases hlt : k < n
    · have hkx : k < xs.length := by rw [HN.out]; exact hlt
      have hky : k < ys.length := by rw [HM.out]; exact hlt
      have hlx := HX.out.later HB.out
      have hly := HY.out.later HB.out
      obtain ⟨g1, o1, rfl, a0⟩ := hlx.at hkx
      obtain ⟨g2, o2, rfl, b0⟩ := hly.at hky
      have rx := hlx.ok (xs[k]!) (by rw [getElem!_pos xs k hkx]; exact List.getElem_mem _)
      have ry := hly.ok (ys[k]!) (by rw [getElem!_pos ys k hky]; exact List.getElem_mem _)
      have hrs : (ys[k]!).rs = (xs[k]!).rs := by
        have h9 : (xs.map SV.rs)[k]'(by simpa using hkx) = (ys.map SV.rs)[k]'(by simpa using hky) := by simp only [HS.out]
        rw [List.getElem_map, List.getElem_map] at h9
        rw [getElem!_pos xs k hkx, getElem!_pos ys k hky]
        exact h9.symm
      obtain ⟨⟨rs, xp, xc⟩, hx⟩ : ∃ x, xs[k]! = x := ⟨_, rfl⟩
      obtain ⟨⟨rs2, yp, yc⟩, hy⟩ : ∃ y, ys[k]! = y := ⟨_, rfl⟩
      rw [hx] at a0 rx hrs
      rw [hy] at b0 ry hrs
      simp only at a0 b0 hrs
      subst hrs
      obtain ⟨L, hL⟩ : ∃ L, rs2.length = L := ⟨_, rfl⟩
      rw [hL] at a0 b0
      have rx2 : RRow wr xp xc rs2 := rx
      have ry2 : RRow wr yp yc rs2 := ry
      have HC : Hid (∀ X, Below wr.heap.size wr X → Calls Try.prog 10 #[.slice xp L xc, .slice yp L yc] X fun e w' => e = .returned (.bool true) ∧ Below X.heap.size X w') := hide (fun X hX => samerec_any (RRow.later rx2 hX) (RRow.later ry2 hX) hL)
      have u6 : (0 : Int) ≤ (k : Int) := by omega
      have u7 : (k : Int) < (n : Int) := by omega
      clear rx ry rx2 ry2 hx hy hL hlx hly hkx hky
      go_upto_region 6 with fail
      refine region_class (fun X => Below wr.heap.size wr X) (by kernel_rfl) (by kernel_rfl) (Below.refl _ wr).drew ?_
      repeat
        first
          | (refine BigFrame.wpQuiet_want (by rfl) (fun K hK => ?_)
             unfold Oper.quiet
             apply Exists.intro
             refine ⟨fun X hX => ?_, hK _ ?_⟩
             · have l0 := cell_later hX a0
               have l1 := cell_later hX b0
               first
                | (go_simp; done)
                | (go_simp; exact rfl)
                | (go_simp
                   (go_at_call 10; refine (HC.out X hX).mono ?_; rintro e w3 ⟨rfl, hb3⟩; exact ⟨rfl, hX.trans (hb3.mono hX.size)⟩))
             clear hK K
             simp only [Act.put, List.setIfInBounds_toArray, List.set_cons_zero, List.set_cons_succ])
      refine wpQuiet_nil (fun X hX => ?_)
      have HB2 := hide (HB.out.trans (hX.mono HB.out.size))
      clear hX HC a0 b0
      go_wp2
      exact ⟨⟨k + 1, by omega, by first | rfl | go_num, HB2⟩, by simp [intOf]; omega⟩
    · obtain rfl : k = n := by omega
      go_wp2
      go_ret
      exact ⟨rfl, HB.out⟩
end Go.Proofs.Ytbcllgddogghbaa
