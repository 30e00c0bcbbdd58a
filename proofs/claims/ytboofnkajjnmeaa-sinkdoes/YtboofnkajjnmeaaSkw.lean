/-
  Open of the program's sink: the names of what it holds, rising. The conditions: that the sink lies there.
-/
import Derived.Test.YtboofnkajjnmeaaSkv
namespace Go.Proofs.Ytboofnkajjnmeaa
open Go.RowKit Go.Maps Go.Shelf Go.Sort Go.Lib

set_option maxRecDepth 100000 in
theorem collect_any {W : World} {gf : Nat} {lb : Array Value} {S : List (Int × Int) → Prop} {N : Nat} (eg : ∀ args w, (callFunc gf args).run Try.prog w = .ok (.enter gf args) w) (hseq : SeqGives Fence.wide 2 Try.prog gf lb nmV S N W) (hN : N ≤ 1048576) :
    Calls Try.prog 83 #[.func (.func gf) #[] lb] W fun e w' => ∃ p c ss, e = .returned (.slice p ss.length c) ∧ S ss ∧ w'.ownsRow W.heap.size 55 2 (.slice p ss.length c) ss.length (ss.flatMap nmC) ∧ Below W.heap.size W w' := by
  have HA := hide (callsIn_wide.1 (appendSeq_in 3 (Nat.le_refl _) eg hseq hN))
  clear hseq
  go_enter Try.func83, Try.ntmps83
  go_wp2_with fail
  refine HA.out.mono ?_
  rintro _ w' ⟨p, c, ss, rfl, hS, hrow, hb⟩
  have HS := hide hS
  have HR := hide hrow
  have HB := hide hb
  clear hS hrow hb HA
  go_wp2
  go_ret
  exact ⟨p, c, ss, rfl, HS.out, HR.out, HB.out⟩
set_option maxRecDepth 100000 in
theorem sortedFunc_any {W : World} {gf : Nat} {lb : Array Value} {T : List (Int × Int)} {N : Nat} (eg : ∀ args w, (callFunc gf args).run Try.prog w = .ok (.enter gf args) w) (hseq : SeqGives Fence.wide 2 Try.prog gf lb nmV (fun ss => ss.Perm T) N W) (hN : N ≤ 1048576) (hT : T.Pairwise (fun a b => ltOf nmCmp a b = true)) (hTn : T.length ≤ 1048576) {n : Nat} (hTl : T.length = n) :
    Calls Try.prog 62 #[.func (.func gf) #[] lb, .func (.func 64) #[] #[]] W fun e w' => ∃ p c, e = .returned (.slice p n c) ∧ w'.ownsRow W.heap.size 55 2 (.slice p n c) n (T.flatMap nmC) ∧ Below W.heap.size W w' := by
  have HA := hide (collect_any eg hseq hN)
  have HT := hide hT
  have HN := hide hTn
  have HL := hide hTl
  clear hseq hT hTn hTl
  go_enter Try.func62, Try.ntmps62
  go_wp2_with fail
  refine HA.out.mono ?_
  rintro _ w1 ⟨p, c, ss, rfl, hS, hrow, hb⟩
  have hl : ss.length = n := by rw [hS.length_eq, HL.out]
  rw [hl] at hrow ⊢
  have HS := hide hS
  have HR := hide hrow
  have HB := hide hb
  have HSL := hide hl
  clear hS hrow hb HA hl
  go_wp2_with fail
  refine (sortfunc_any HR.out HSL.out HS.out HT.out (by have := HN.out; have := HL.out; omega)).mono ?_
  rintro _ w2 ⟨rfl, hrow, hg⟩
  have HR2 := hide hrow
  have HG := hide hg
  clear hrow hg
  go_wp2
  go_ret
  exact ⟨p, c, rfl, HR2.out, HB.out.grown HG.out HB.out.size (fun k e => own_block_base HR.out e)⟩

theorem PS.sorted {B : Nat} {W : World} {k : PK} (h : PS B W k) : (k.xs.map TP.nm).Pairwise (fun a b => ltOf nmCmp a b = true) := by
  have h1 := h.ok.pre
  rw [show k.sk.pre = k.xs.map TP.t from rfl, List.pairwise_map] at h1
  rw [List.pairwise_map]
  refine (List.Pairwise.and_mem.1 h1).imp fun {a b} hab => ?_
  obtain ⟨ha, hb, hlt⟩ := hab
  have e1 := (h.named.ep a ha).1
  have e2 := (h.named.ep b hb).1
  rw [ltN]
  exact decide_eq_true (.inr ⟨by show a.t.ep = b.t.ep; rw [e1, e2], hlt⟩)
set_option maxRecDepth 100000 in
set_option maxHeartbeats 1000000 in
theorem open_any {B : Nat} {W : World} {k : PK} (h : PS B W k) {n : Nat} (hn : k.xs.length = n) :
    Calls Try.prog 30 #[.pointer (some ⟨k.b, 0, none⟩)] W fun e w' => ∃ p c, e = .returned (.slice p n c) ∧ w'.ownsRow W.heap.size 55 2 (.slice p n c) n ((k.xs.map TP.nm).flatMap nmC) ∧ Below W.heap.size W w' := by
  have hb := (box_lt h.box : k.b < W.heap.size)
  have u4 := h.c4
  have HP := hide h
  have HM := hide (made_yes h)
  have HX : Hid (k.xs.length ≤ 8) := hide (by have h9 := h.ok.room; simpa [PK.sk] using h9)
  have HN := hide hn
  clear h hn
  go_enter Try.func30, Try.ntmps30
  go_wp2_with fail
  refine HM.out.mono ?_
  rintro _ _ ⟨rfl, rfl⟩
  go_wp2_with fail
  refine (keys_any _ _).mono ?_
  rintro _ _ ⟨rfl, rfl⟩
  rename World => W
  obtain ⟨V, hV⟩ : ∃ V, V = W.alloc (.cells #[.map (some k.mb)] 61 (0, 0)) := ⟨_, rfl⟩
  have HBV : Hid (Below W.heap.size W V) := hide (by rw [hV]; exact alloc_below _ _)
  have HVX : Hid (V.heap[W.heap.size]? = some (.cells #[.map (some k.mb)] 61 (0, 0))) := hide (by rw [hV]; exact heap_alloc_new W _)
  rw [← hV]
  clear hV u4 HM
  go_wp2_with fail
  refine (sortedFunc_any (enters_of Try.func85 (by kernel_rfl) rfl) (keys_gives 2 (by omega) HP.out.named V (box_lt HVX.out) (cellB (i := 0) HVX.out rfl) (HP.out.map.later HBV.out)) (by have := HX.out; omega) HP.out.sorted (by have := HX.out; simp; omega) (by simpa using HN.out)).mono ?_
  rintro _ w2 ⟨p, c, rfl, hrow, hb2⟩
  have HR := hide hrow
  have HB2 := hide hb2
  clear hrow hb2
  go_wp2
  go_ret
  exact ⟨p, c, rfl, ownsRow_base HR.out HBV.out.size, HBV.out.trans (HB2.out.mono HBV.out.size)⟩
end Go.Proofs.Ytboofnkajjnmeaa
