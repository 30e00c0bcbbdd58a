/-
  The reference: Left. The conditions: as for all, of each file.
-/
import Derived.Test.YtikpckmlnhcddaaGreatRal
namespace Go.Proofs.YtikpckmlnhcddaaGreat
open Go.RowKit Go.Maps

/-- All sizes of the first k files together. -/
def sizesTo (R : RS) : Nat → Nat
  | 0 => 0
  | k + 1 => sizesTo R k + (allTo R.P (R.L[k]!).name (R.L[k]!).b R.P.length).length

structure RefOk (R : RS) : Prop where
  at_ : ∀ k, k < R.L.length → atL R.L (R.L[k]!).name = some k
  all : ∀ k, k < R.L.length → AllOk R.P (R.L[k]!).name (R.L[k]!).b
  P : R.P.length ≤ 2199023255552
  L : R.L.length ≤ 4194304
  sum : ∀ k, k ≤ R.L.length → sizesTo R k ≤ R.most
  most : R.most ≤ 4194304

set_option maxRecDepth 100000 in
set_option maxHeartbeats 1000000 in
theorem rleft_any {W : World} {rb : Nat} {R : RS} (h : RRep W rb R) (hok : RefOk R) :
    Calls Tryz.prog 43 #[.pointer (some ⟨rb, 0, none⟩)] W fun e w' => e = .returned (.int .i64 ((R.most : Int) - (sizesTo R R.L.length : Nat))) ∧ Below W.heap.size W w' := by
  obtain ⟨c0, c1, c2, c3⟩ := h.rcells
  obtain ⟨p, cap, he, h1, h2⟩ := own_form h.lrow
  rw [he] at c0
  have H := hide h
  have HE := hide he
  have HK := hide hok
  have hm := hok.most
  have hL := hok.L
  clear h hok he c1 c3
  go_enter Tryz.func43, Tryz.ntmps43
  go_wp2_with fail
  go_loopw [3, 4] (fun nv i wr => ∃ k : Nat, k ≤ R.L.length ∧ i = .int .i64 (k : Int) ∧ nv = .int .i64 ((R.most : Int) - (sizesTo R k : Nat)) ∧ Hid (Below W.heap.size W wr)) (fun _ i _ => R.L.length - (intOf i).toNat)
  case atStart => exact ⟨0, Nat.zero_le _, rfl, by simp [sizesTo], hide (Below.refl _ _)⟩
  case round =>
    obtain ⟨k, hk, rfl, rfl, HB⟩ := hrel
    have c0' := cell_later HB.out c0
    by_cases hlt : k < R.L.length
    · have hlr := ownsRow_later H.out.lrow HB.out
      rw [HE.out] at hlr
      obtain ⟨g, rfl, d0, _, _, _⟩ := file_cells hlr rfl hlt
      have hs1 := HK.out.sum (k + 1) (by omega)
      have hat := HK.out.at_ k hlt
      have hal := HK.out.all k hlt
      have hse : sizesTo R (k + 1) = sizesTo R k + (allTo R.P (R.L[k]!).name (R.L[k]!).b R.P.length).length := rfl
      obtain ⟨N, hN⟩ : ∃ N, (allTo R.P (R.L[k]!).name (R.L[k]!).b R.P.length).length = N := ⟨_, rfl⟩
      have hAA := all_any (s := ⟨(R.L[k]!).name.toArray⟩) (H.out.fresh HB.out) hat hal HK.out.P
      have HA : Hid (Calls Tryz.prog 65 #[.pointer (some ⟨rb, 0, none⟩), .string ⟨(R.L[k]!).name.toArray⟩] wr fun e w' => ∃ p cap, e = .returned (.slice p N cap) ∧ Below wr.heap.size wr w') := by
        refine hide (hAA.mono ?_)
        rintro e w' ⟨p, cap, rfl, _, _, hb⟩
        exact ⟨p, cap, by rw [← hN], hb⟩
      rw [hse, hN] at hs1
      have HSE := hide hse
      rw [hN] at HSE
      obtain ⟨f, hf⟩ : ∃ f, R.L[k]! = f := ⟨_, rfl⟩
      rw [hf] at d0 HA
      unfold strV at d0
      obtain ⟨S, hS⟩ : ∃ S, sizesTo R k = S := ⟨_, rfl⟩
      rw [hS] at HSE hs1 ⊢
      clear hN hS hlr hat hal hse hAA hf
      go_wp2_with fail
      refine HA.out.mono ?_
      rintro _ w1 ⟨p1, cp1, rfl, hb⟩
      have HB1 : Hid (Below W.heap.size W w1) := hide (HB.out.trans (hb.mono HB.out.size))
      clear HA hb d0 c0'
      go_wp2
      exact ⟨⟨k + 1, by omega, by go_num, by rw [HSE.out]; simp; omega, HB1⟩, by simp [intOf]; omega⟩
    · obtain rfl : k = R.L.length := by omega
      go_wp2
      go_ret
      exact ⟨rfl, HB.out⟩
end Go.Proofs.YtikpckmlnhcddaaGreat

/-
  The reference: without. The conditions: lengths.
-/
namespace Go.Proofs.YtikpckmlnhcddaaGreat
open Go.RowKit Go.Maps

theorem Tryz.infoPe : (Tryz.prog.info? 98).map (fun i => (i.zero, i.size, i.bytes)) = some (some (.agg #[.string ⟨#[]⟩, .int .i64 0, .slice none 0 0]), 3, 48) := by kernel_rfl
def withoutL (P : List RP) (n : List UInt8) : List RP := P.filter (fun p => !(p.name == n))

set_option maxRecDepth 100000 in
set_option maxHeartbeats 1000000 in
theorem without_any {W : World} {rb : Nat} {R : RS} (h : RRep W rb R) {s : ByteArray} (hP : R.P.length ≤ 2199023255552) :
    Calls Tryz.prog 66 #[.pointer (some ⟨rb, 0, none⟩), .string s] W fun e w' => ∃ p cap, e = .returned (.slice p (withoutL R.P s.data.toList).length cap) ∧ w'.ownsRow W.heap.size 98 3 (.slice p (withoutL R.P s.data.toList).length cap) (withoutL R.P s.data.toList).length ((withoutL R.P s.data.toList).flatMap RP.cells) ∧ Below W.heap.size W w' := by
  obtain ⟨i0, hI0, hz0, hz1, hz2⟩ := info_parts Tryz.infoPe
  obtain ⟨c0, c1, c2, c3⟩ := h.rcells
  obtain ⟨p, cap, he, h1, h2⟩ := own_form h.prow
  rw [he] at c1
  have H := hide h
  have HE := hide he
  clear h he c0 c2 c3
  go_enter Tryz.func66, Tryz.ntmps66
  go_wp2_with fail
  go_loopw [5, 6] (fun lv i wr => ∃ (k m : Nat) (p1 : Option Addr) (cp1 : Nat), k ≤ R.P.length ∧ i = .int .i64 (k : Int) ∧ lv = .slice p1 m cp1 ∧ m ≤ k ∧ m ≤ cp1 ∧ cp1 ≤ 9223372036854775807 ∧ Hid (m = (withoutL (R.P.take k) s.data.toList).length) ∧ Hid (wr.ownsRow W.heap.size 98 3 (.slice p1 m cp1) m ((withoutL (R.P.take k) s.data.toList).flatMap RP.cells)) ∧ Hid (Below W.heap.size W wr)) (fun _ i _ => R.P.length - (intOf i).toNat)
  case atStart => exact ⟨0, 0, none, 0, Nat.zero_le _, rfl, rfl, Nat.le_refl _, Nat.le_refl _, by decide, hide (by simp [withoutL]), hide (by simpa [withoutL] using World.ownsRow_nil _ _ _ _), hide (Below.refl _ _)⟩
  case round =>
    obtain ⟨k, m, p1, cp1, hk, rfl, rfl, hmk, hq1, hq2, HM, HR, HB⟩ := hrel
    have c1' := cell_later HB.out c1
    by_cases hlt : k < R.P.length
    · have hpr := ownsRow_later H.out.prow HB.out
      rw [HE.out] at hpr
      obtain ⟨g, rfl, d0, d1, d2⟩ := pend_cells hpr rfl hlt
      obtain ⟨x, hx⟩ : ∃ x, R.P[k]! = x := ⟨_, rfl⟩
      have hxm : x ∈ R.P := by rw [← hx, getElem!_pos R.P k hlt]; exact List.getElem_mem _
      have HT : Hid (R.P.take (k + 1) = R.P.take k ++ [x]) := by
        refine hide ?_
        rw [List.take_succ_eq_append_getElem hlt, ← hx, getElem!_pos R.P k hlt]
      rw [hx] at d0 d1 d2
      obtain ⟨px, cx, hxe, _, _, _, _⟩ := id (H.out.pb x hxm).1
      rw [hxe] at d2
      have HXE := hide hxe
      unfold strV at d0
      clear hpr hx hxm hxe
      by_cases hq : x.name = s.data.toList
      · have he : (x.name == s.toList) = true := by rw [ByteArray.toList_eq, hq]; simp
        have hs : withoutL (R.P.take (k + 1)) s.data.toList = withoutL (R.P.take k) s.data.toList := by rw [HT.out]; simp [withoutL, hq]
        have HSM := hide hs
        clear hs
        go_wp2
        refine ⟨⟨k + 1, m, p1, cp1, by omega, by go_num, rfl, by omega, hq1, hq2, ?_⟩, by simp [intOf]; omega⟩
        rw [HSM.out]
        exact ⟨HM, HR, HB⟩
      · have he : (x.name == s.toList) = false := by
          rw [ByteArray.toList_eq]
          simpa using hq
        have hs : withoutL (R.P.take (k + 1)) s.data.toList = withoutL (R.P.take k) s.data.toList ++ [x] := by rw [HT.out]; simp [withoutL, hq]
        have HSM := hide hs
        clear hs
        obtain ⟨O1, hO1⟩ : ∃ O1 : Obj, O1 = .cells #[.string ⟨x.name.toArray⟩, .int .i64 x.beg, .slice px x.b.length cx] 98 (0, 0) := ⟨_, rfl⟩
        have Y2 := hide (ownsRow_later HR.out (alloc_below wr O1))
        have Y6 : Hid ((wr.alloc O1).heap[wr.heap.size]? = some O1) := hide (heap_alloc_new wr O1)
        have YB : Hid (Below W.heap.size W (wr.alloc O1)) := hide (HB.out.trans ((alloc_below wr O1).mono HB.out.size))
        rw [hO1] at Y2 Y6 YB
        clear hO1
        go_wp2_with (at_builtin; refine wpList_append_own _ rfl (.tmp 26) (.tmp 34) 65 rfl W.heap.size 98 i0 (.agg #[.string ⟨#[]⟩, .int .i64 0, .slice none 0 0]) 3 48 Tryz.underlying65 hI0 hz0 hz1 hz2 rfl (by decide) (.slice p1 m cp1) _ _ rfl Y2.out ⟨wr.heap.size, 0, none⟩ 1 1 [.string ⟨x.name.toArray⟩, .int .i64 x.beg, .slice px x.b.length cx] rfl rfl (World.news_of_block Y6.out) ?b2 ?b3 ?b4 ?b5 ?_)
        case b2 =>
          intro u hu
          simp at hu
          rcases hu with rfl | rfl | rfl <;> rfl
        case b3 => unfold maxLen; omega
        case b4 => omega
        case b5 => exact YB.out.size
        intro v' w5 hown5 hg5 _
        obtain ⟨p5, cp5, rfl, hc5, hc6⟩ := own_form hown5
        have Z1 := hide hown5
        have Z2 : Hid (Below W.heap.size W w5) := hide (YB.out.grown hg5 YB.out.size (fun i hi => own_block_base Y2.out hi))
        clear hown5 hg5 Y2 Y6 YB HR HB d0 d1 d2 c1'
        go_wp2
        refine ⟨⟨k + 1, m + 1, p5, cp5, by omega, by go_num, rfl, by omega, hc5, hc6, ?_⟩, by simp [intOf]; omega⟩
        rw [HSM.out]
        refine ⟨hide (by rw [HM.out]; simp), hide ?_, Z2⟩
        have := Z1.out
        rw [List.flatMap_append]
        simpa [RP.cells, strV, HXE.out] using this
    · obtain rfl : k = R.P.length := by omega
      go_wp2
      go_ret
      have hm := HM.out
      have hr := HR.out
      rw [List.take_length] at hm hr
      subst hm
      exact ⟨p1, cp1, rfl, hr, HB.out⟩
end Go.Proofs.YtikpckmlnhcddaaGreat

/-
  The reference: New, Start. No conditions.
-/
namespace Go.Proofs.YtikpckmlnhcddaaGreat
open Go.RowKit Go.Maps

set_option maxRecDepth 100000 in
set_option maxHeartbeats 1000000 in
theorem rnew_ok {W : World} {room : Nat} (h1 : room ≤ 4194304) :
    Calls Tryz.prog 8 #[.int .i64 room] W fun e w' => e = .returned (.tuple #[.pointer (some ⟨W.heap.size, 0, none⟩), .int .i64 0]) ∧ RRep w' W.heap.size ⟨[], [], room, false, .slice none 0 0, .slice none 0 0⟩ ∧ Below W.heap.size W w' := by
  have h2 : decide ((room : Int) < 0) = false := decide_eq_false (by omega)
  have h3 : decide ((4194304 : Int) < (room : Int)) = false := decide_eq_false (by omega)
  go_enter Tryz.func8, Tryz.ntmps8
  go_wp2
  go_ret2
  exact ⟨rfl, ⟨heap_alloc_new _ _, World.ownsRow_nil _ _ _ _, World.ownsRow_nil _ _ _ _, by simp, by simp, by simp [rcov]⟩, alloc_below _ _⟩

set_option maxRecDepth 100000 in
set_option maxHeartbeats 1000000 in
theorem rnew_bad {W : World} {room : Int} (h : room < 0 ∨ 4194304 < room) :
    Calls Tryz.prog 8 #[.int .i64 room] W fun e w' => e = .returned (.tuple #[.pointer none, .int .i64 1]) ∧ w' = W := by
  have h3 : decide (room < 0) = true ∨ (decide (room < 0) = false ∧ decide (4194304 < room) = true) := by
    by_cases h0 : room < 0
    · exact .inl (decide_eq_true h0)
    · exact .inr ⟨decide_eq_false h0, decide_eq_true (by omega)⟩
  clear h
  rcases h3 with h3 | ⟨h3, h4⟩
  all_goals
    go_enter Tryz.func8, Tryz.ntmps8
    go_wp2
    go_ret2
    exact ⟨rfl, rfl⟩

set_option maxRecDepth 100000 in
set_option maxHeartbeats 1000000 in
theorem rstart_up {W : World} {rb : Nat} {R : RS} (h : RRep W rb R) (hd : R.down = false) :
    Calls Tryz.prog 40 #[.pointer (some ⟨rb, 0, none⟩)] W fun e w' => e = .returned (.int .i64 1) ∧ w' = W := by
  obtain ⟨_, _, _, c3⟩ := h.rcells
  rw [hd] at c3
  clear h
  go_enter Tryz.func40, Tryz.ntmps40
  go_wp2
  go_ret
  exact ⟨rfl, rfl⟩

set_option maxRecDepth 100000 in
set_option maxHeartbeats 1000000 in
theorem rstart_down {W : World} {rb : Nat} {R : RS} (h : RRep W rb R) (hd : R.down = true) :
    Calls Tryz.prog 40 #[.pointer (some ⟨rb, 0, none⟩)] W fun e w' => e = .returned (.int .i64 0) ∧ w' = W.setCell ⟨rb, 3, none⟩ (.bool false) := by
  obtain ⟨_, _, _, c3⟩ := h.rcells
  have f3 : W.frozen? ⟨rb, 3, none⟩ = false := by simp [World.frozen?, h.box]
  rw [hd] at c3
  clear h
  go_enter Tryz.func40, Tryz.ntmps40
  go_wp2
  go_ret
  exact ⟨rfl, rfl⟩
end Go.Proofs.YtikpckmlnhcddaaGreat
