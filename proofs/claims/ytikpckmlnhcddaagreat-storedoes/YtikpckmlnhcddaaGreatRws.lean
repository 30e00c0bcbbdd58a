/-
  The reference: Write, where it succeeds. The conditions: lengths.
-/
import Derived.Test.YtikpckmlnhcddaaGreatRwr
namespace Go.Proofs.YtikpckmlnhcddaaGreat
open Go.RowKit Go.Maps

theorem Seg.of_row {w : World} {v : Value} {l : List Int} (h : Row .u8 w v l) : Seg w 1 v l.length (l.map (Value.int .u8)) := by
  obtain ⟨p, cap, rfl, h1, h2, h3, h4⟩ := id h
  refine ⟨p, cap, rfl, h1, h2, by simp, ints_one _ _, h3, fun ad ha j u hu => ?_⟩
  have hl : l ≠ [] := by rintro rfl; simp at hu
  obtain ⟨b, o, cap', he, _, hc⟩ := h.news hl
  simp only [Value.slice.injEq] at he
  obtain rfl : ad = ⟨b, o, none⟩ := by rw [ha] at he; simpa using he.1
  exact hc j u hu
theorem pushed_frozen {W w1 w2 : World} {o : Obj} {rb : Nat} {R : RS} (h : RRep W rb R) (hb : Below W.heap.size W w1) (hg : (w1.alloc o).grownBy w2 R.pv.ownBlock) : w2.frozen? ⟨rb, 1, none⟩ = false ∧ w2.cell? ⟨rb, 1, none⟩ = some R.pv := by
  have h1 := h.fresh (hb.trans ((alloc_below w1 o).mono hb.size))
  have hbox := (Only.of_grown (F := fun i => R.pv.ownBlock = some i) hg (fun k e => e)).obj h1.box h1.p_rb
  exact ⟨box_frozen hbox 1, by simp [World.cell?, hbox]⟩

set_option maxRecDepth 100000 in
set_option maxHeartbeats 4000000 in
theorem rwrite_some {W : World} {rb : Nat} {R : RS} (h : RRep W rb R) (hok : RefOk R) (hs : Sole R) {s : ByteArray} (hE : R.core.may s.data.toList = 0) {k : Nat} (hk : k ≤ (R.core.all s.data.toList).length) {v : Value} {b : By} (hb : Row .u8 W v b) (hu : U8 b) (hb0 : b ≠ []) (hbl : b.length ≤ 4194304) (hP : R.P.length < 2199023255552)
    (hroom : (b.length : Int) - (((R.core.all s.data.toList).length : Int) - k) ≤ R.core.left) :
    Calls Tryz.prog 32 #[.pointer (some ⟨rb, 0, none⟩), .string s, .int .i64 k, v] W fun e w' => e = .returned (.int .i64 0) ∧ ∃ R', RRep w' rb R' ∧ RStep W w' rb R R' ∧ R'.core = { R.core with P := R.core.P ++ [⟨s.data.toList, k, b⟩] } := by
  have HM := hide (may_calls h s)
  rw [hE] at HM
  obtain ⟨_, j, hj⟩ := may_zero hE
  have hN1 := all_len hok hs hj
  obtain ⟨N, hN⟩ : ∃ N, (R.core.all s.data.toList).length = N := ⟨_, rfl⟩
  have HA := hide (all_calls h hok hs hj rfl hN)
  rw [hN] at hN1 hk hroom
  obtain ⟨l0, l1⟩ := left_bounds hok hs
  have HL : Hid (∀ w1, Below W.heap.size W w1 → Calls Tryz.prog 43 #[.pointer (some ⟨rb, 0, none⟩)] w1 fun e w' => e = .returned (.int .i64 R.core.left) ∧ Below w1.heap.size w1 w') := hide (fun w1 hb => left_calls (h.fresh hb) hok hs)
  obtain ⟨LF, hLF⟩ : ∃ LF, R.core.left = LF := ⟨_, rfl⟩
  rw [hLF] at HL hroom l0 l1
  obtain ⟨pb, bcap, rfl, hb1, hb2, _, _⟩ := id hb
  have hbp : 0 < b.length := List.length_pos_iff.2 hb0
  obtain ⟨i0, hI0, hz0, hz1, hz2⟩ := info_parts Tryz.infoU8
  obtain ⟨i1, hJ0, hy0, hy1, hy2⟩ := info_parts Tryz.infoPe
  obtain ⟨c0, c1, c2, c3⟩ := h.rcells
  obtain ⟨pp, pcap, hpe, hp1, hp2⟩ := own_form h.prow
  rw [hpe] at c1
  have HPE := hide hpe
  have H := hide h
  have HB := hide hb
  have HU := hide hu
  have HK1 : Hid (0 + b.length ≤ maxLen) := by show _ ≤ _; unfold maxLen; omega
  have HK2 : Hid ((0 + b.length) * 1 ≤ 140737488355328) := by show _ ≤ _; omega
  have HK3 : Hid (R.P.length + 1 ≤ maxLen) := by show _ ≤ _; unfold maxLen; omega
  have HK4 : Hid ((R.P.length + 1) * 48 ≤ 140737488355328) := by show _ ≤ _; omega
  clear hE h hok hs hj hN hLF hb hu c0 c2 c3 hpe hb0
  go_enter Tryz.func32, Tryz.ntmps32
  go_wp2_with fail
  refine HM.out.mono ?_
  rintro _ W ⟨rfl, rfl⟩
  go_wp2_with fail
  refine HA.out.mono ?_
  rintro _ w1 ⟨p1, cap1, rfl, _, _, _, _, hb⟩
  have HB1 := hide hb
  clear hb HM HA
  by_cases hm : 0 < (b.length : Int) - ((N : Int) - k)
  · have hd1 : decide (0 < (b.length : Int) - ((N : Int) - k)) = true := decide_eq_true hm
    have hd2 : decide (LF < (b.length : Int) - ((N : Int) - k)) = false := decide_eq_false (by omega)
    go_wp2_with fail
    refine (HL.out _ HB1.out).mono ?_
    rintro _ wx ⟨rfl, hb2⟩
    have HBW : Hid (Below W.heap.size W wx) := hide (HB1.out.trans (hb2.mono HB1.out.size))
    clear hb2 HL
    have q1 := cell_later HBW.out c1
    have q2 : rb < wx.heap.size := Nat.lt_of_lt_of_le (H.out.rown_lt (.inl rfl)) HBW.out.size
    have HPR : Hid (∀ X, Below wx.heap.size wx X → X.ownsRow 0 98 3 (.slice pp R.P.length pcap) R.P.length (R.P.flatMap RP.cells)) := hide (fun X hX => by
      have := ownsRow_later (ownsRow_later H.out.prow HBW.out) hX
      rw [HPE.out] at this
      exact this)
    have HSG := hide (Seg.of_row ((HB.out.below HBW.out).below (Below.refl _ wx).drew))
    have HPB : Hid (∀ (w1 w2 : World) (o : Obj), Below wx.heap.size wx w1 → (w1.alloc o).grownBy w2 (Value.slice pp R.P.length pcap).ownBlock → w2.frozen? ⟨rb, 1, none⟩ = false ∧ w2.cell? ⟨rb, 1, none⟩ = some (.slice pp R.P.length pcap)) := hide (fun w1 w2 o hb hg => by
      have := pushed_frozen H.out (HBW.out.trans (hb.mono HBW.out.size)) (by rw [HPE.out]; exact hg)
      rw [HPE.out] at this
      exact this)
    have HEQ : Hid (∀ (w1 w2 : World) (o : Obj) (g cap2 : Nat) (p1 : Option Addr) (c1 : Nat), Below wx.heap.size wx w1 → w1.ownsRow wx.heap.size 5 1 (.slice p1 b.length c1) b.length (b.map (Value.int .u8)) → w2.ownsRow 0 98 3 (.slice (some ⟨g, 0, none⟩) (R.P.length + 1) cap2) (R.P.length + 1) (R.P.flatMap RP.cells ++ [.string ⟨s.data.toList.toArray⟩, .int .i64 k, .slice p1 b.length c1]) → (w1.alloc o).grownBy w2 (Value.slice pp R.P.length pcap).ownBlock → ((Value.slice pp R.P.length pcap).ownBlock = some g ∨ g = w1.heap.size + 1) → ∃ R', RRep (w2.setCell ⟨rb, 1, none⟩ (.slice (some ⟨g, 0, none⟩) (R.P.length + 1) cap2)) rb R' ∧ RStep W (w2.setCell ⟨rb, 1, none⟩ (.slice (some ⟨g, 0, none⟩) (R.P.length + 1) cap2)) rb R R' ∧ R'.core = { R.core with P := R.core.P ++ [⟨s.data.toList, k, b⟩] }) := by
      refine hide (fun w1 w2 o g cap2 p1 c1 hb o1 o2 g2 hat => ?_)
      refine H.out.pushP (HBW.out.trans (hb.mono HBW.out.size)) (own_base5 o1 HBW.out.size) rfl HU.out o2 (w1.alloc o) (alloc_below _ _) (by rw [HPE.out]; exact g2) ?_
      rw [HPE.out]
      rcases hat with h' | h'
      · exact .inl h'.symm
      · exact .inr ⟨g, rfl, by omega⟩
    clear HB1 HB c1
    go_upto_region 12 with fail
    go_region_law (first
      | (refine step_append_cells (by rfl) (.tmp 55) (.tmp 56) 31 (by rfl) wx.heap.size 5 i0 (.int .u8 0) 1 1 Tryz.underlying31 hI0 hz0 hz1 hz2 rfl (by decide) (.slice none 0 0) 0 [] (by simp [Act.eval, Act.put]) (World.ownsRow_nil _ _ _ _) (.slice pb b.length bcap) b.length (b.map (Value.int .u8)) (by simp [Act.eval, Act.put]) HSG.out HK1.out HK2.out (Nat.le_refl _) ?_; intro p1 c1 w1 o1 g1; have B1 : Below wx.heap.size wx w1 := after_append (Below.refl _ wx).drew g1; have r1 := cell_later B1 q1; have r2 : rb < w1.heap.size := Nat.lt_of_lt_of_le q2 B1.size; have O1 : Hid (w1.ownsRow wx.heap.size 5 1 (.slice p1 b.length c1) b.length (b.map (Value.int .u8))) := by { rw [Nat.zero_add, List.nil_append] at o1; exact hide o1 }; have HB1' := hide B1; clear o1 g1 B1)
      | (refine step_append_lies _ (by rfl) (.tmp 52) (.tmp 59) 65 (by rfl) 0 98 i1 (.agg #[.string ⟨#[]⟩, .int .i64 0, .slice none 0 0]) 3 48 Tryz.underlying65 hJ0 hy0 hy1 hy2 rfl (by decide) (.slice pp R.P.length pcap) R.P.length (R.P.flatMap RP.cells) (by simp [Act.eval]) (HPR.out _ (HB1'.out.alloc HB1'.out.size _)) ⟨w1.heap.size, 0, none⟩ 1 1 [.string s, .int .i64 k, .slice p1 b.length c1] (by simp [Act.eval]) (by rfl) (World.news_of_block (heap_alloc_new _ _)) (by intro u hu; simp at hu; rcases hu with rfl | rfl | rfl <;> rfl) (by decide) HK3.out HK4.out (Nat.zero_le _) (w1.heap.size + 1) (by simp) ?_; intro g cap2 w2 o2 g2 hat hlt; obtain ⟨fz, fc⟩ := HPB.out _ _ _ HB1'.out g2; have Q2 := hide (HEQ.out _ _ _ g cap2 p1 c1 HB1'.out O1.out (by simpa using o2) g2 hat); clear o2 g2 hat))
    all_goals
      go_wp2
      go_ret
      exact ⟨rfl, Q2.out⟩
  · have hd1 : decide (0 < (b.length : Int) - ((N : Int) - k)) = false := decide_eq_false hm
    rename World => wx
    have HBW : Hid (Below W.heap.size W wx) := HB1
    clear HL
    have q1 := cell_later HBW.out c1
    have q2 : rb < wx.heap.size := Nat.lt_of_lt_of_le (H.out.rown_lt (.inl rfl)) HBW.out.size
    have HPR : Hid (∀ X, Below wx.heap.size wx X → X.ownsRow 0 98 3 (.slice pp R.P.length pcap) R.P.length (R.P.flatMap RP.cells)) := hide (fun X hX => by
      have := ownsRow_later (ownsRow_later H.out.prow HBW.out) hX
      rw [HPE.out] at this
      exact this)
    have HSG := hide (Seg.of_row ((HB.out.below HBW.out).below (Below.refl _ wx).drew))
    have HPB : Hid (∀ (w1 w2 : World) (o : Obj), Below wx.heap.size wx w1 → (w1.alloc o).grownBy w2 (Value.slice pp R.P.length pcap).ownBlock → w2.frozen? ⟨rb, 1, none⟩ = false ∧ w2.cell? ⟨rb, 1, none⟩ = some (.slice pp R.P.length pcap)) := hide (fun w1 w2 o hb hg => by
      have := pushed_frozen H.out (HBW.out.trans (hb.mono HBW.out.size)) (by rw [HPE.out]; exact hg)
      rw [HPE.out] at this
      exact this)
    have HEQ : Hid (∀ (w1 w2 : World) (o : Obj) (g cap2 : Nat) (p1 : Option Addr) (c1 : Nat), Below wx.heap.size wx w1 → w1.ownsRow wx.heap.size 5 1 (.slice p1 b.length c1) b.length (b.map (Value.int .u8)) → w2.ownsRow 0 98 3 (.slice (some ⟨g, 0, none⟩) (R.P.length + 1) cap2) (R.P.length + 1) (R.P.flatMap RP.cells ++ [.string ⟨s.data.toList.toArray⟩, .int .i64 k, .slice p1 b.length c1]) → (w1.alloc o).grownBy w2 (Value.slice pp R.P.length pcap).ownBlock → ((Value.slice pp R.P.length pcap).ownBlock = some g ∨ g = w1.heap.size + 1) → ∃ R', RRep (w2.setCell ⟨rb, 1, none⟩ (.slice (some ⟨g, 0, none⟩) (R.P.length + 1) cap2)) rb R' ∧ RStep W (w2.setCell ⟨rb, 1, none⟩ (.slice (some ⟨g, 0, none⟩) (R.P.length + 1) cap2)) rb R R' ∧ R'.core = { R.core with P := R.core.P ++ [⟨s.data.toList, k, b⟩] }) := by
      refine hide (fun w1 w2 o g cap2 p1 c1 hb o1 o2 g2 hat => ?_)
      refine H.out.pushP (HBW.out.trans (hb.mono HBW.out.size)) (own_base5 o1 HBW.out.size) rfl HU.out o2 (w1.alloc o) (alloc_below _ _) (by rw [HPE.out]; exact g2) ?_
      rw [HPE.out]
      rcases hat with h' | h'
      · exact .inl h'.symm
      · exact .inr ⟨g, rfl, by omega⟩
    clear HB1 HB c1
    go_upto_region 12 with fail
    go_region_law (first
      | (refine step_append_cells (by rfl) (.tmp 55) (.tmp 56) 31 (by rfl) wx.heap.size 5 i0 (.int .u8 0) 1 1 Tryz.underlying31 hI0 hz0 hz1 hz2 rfl (by decide) (.slice none 0 0) 0 [] (by simp [Act.eval, Act.put]) (World.ownsRow_nil _ _ _ _) (.slice pb b.length bcap) b.length (b.map (Value.int .u8)) (by simp [Act.eval, Act.put]) HSG.out HK1.out HK2.out (Nat.le_refl _) ?_; intro p1 c1 w1 o1 g1; have B1 : Below wx.heap.size wx w1 := after_append (Below.refl _ wx).drew g1; have r1 := cell_later B1 q1; have r2 : rb < w1.heap.size := Nat.lt_of_lt_of_le q2 B1.size; have O1 : Hid (w1.ownsRow wx.heap.size 5 1 (.slice p1 b.length c1) b.length (b.map (Value.int .u8))) := by { rw [Nat.zero_add, List.nil_append] at o1; exact hide o1 }; have HB1' := hide B1; clear o1 g1 B1)
      | (refine step_append_lies _ (by rfl) (.tmp 52) (.tmp 59) 65 (by rfl) 0 98 i1 (.agg #[.string ⟨#[]⟩, .int .i64 0, .slice none 0 0]) 3 48 Tryz.underlying65 hJ0 hy0 hy1 hy2 rfl (by decide) (.slice pp R.P.length pcap) R.P.length (R.P.flatMap RP.cells) (by simp [Act.eval]) (HPR.out _ (HB1'.out.alloc HB1'.out.size _)) ⟨w1.heap.size, 0, none⟩ 1 1 [.string s, .int .i64 k, .slice p1 b.length c1] (by simp [Act.eval]) (by rfl) (World.news_of_block (heap_alloc_new _ _)) (by intro u hu; simp at hu; rcases hu with rfl | rfl | rfl <;> rfl) (by decide) HK3.out HK4.out (Nat.zero_le _) (w1.heap.size + 1) (by simp) ?_; intro g cap2 w2 o2 g2 hat hlt; obtain ⟨fz, fc⟩ := HPB.out _ _ _ HB1'.out g2; have Q2 := hide (HEQ.out _ _ _ g cap2 p1 c1 HB1'.out O1.out (by simpa using o2) g2 hat); clear o2 g2 hat))
    all_goals
      go_wp2
      go_ret
      exact ⟨rfl, Q2.out⟩
end Go.Proofs.YtikpckmlnhcddaaGreat
