/-
  The reference: all. The conditions: each pending write begins within, lengths.
-/
import Derived.Test.YtikpckmlnhcddaaGreatRat
import Derived.Test.YtikpckmlnhcddaaGreatQui
namespace Go.Proofs.YtikpckmlnhcddaaGreat
open Go.RowKit Go.Maps

/-- Bytes with the first k pending writes of a name. -/
def allTo (P : List RP) (n : List UInt8) (b : List Int) : Nat → List Int
  | 0 => b
  | k + 1 => if (P[k]!).name = n then putL (allTo P n b k) (P[k]!).beg (P[k]!).b else allTo P n b k
structure AllOk (P : List RP) (n : List UInt8) (b : List Int) : Prop where
  spot : ∀ k, k < P.length → (P[k]!).name = n → (P[k]!).beg ≤ (allTo P n b k).length
  size : ∀ k, k < P.length → (P[k]!).name = n → (P[k]!).b.length ≤ 4194304
  len : ∀ k, k ≤ P.length → (allTo P n b k).length ≤ 4194304

theorem over_rel {W wr w1 : World} {c : List Int} {p1 : Option Addr} {c1 : Nat} (hB : Below W.heap.size W wr) (o1 : w1.ownsRow wr.drew.heap.size 5 1 (.slice p1 c.length c1) c.length (c.map (Value.int .u8))) (b1 : Below wr.drew.heap.size wr.drew w1) :
    c.length ≤ c1 ∧ c1 ≤ 9223372036854775807 ∧ Row .u8 w1 (.slice p1 c.length c1) c ∧ (∀ i, (Value.slice p1 0 0).ownBlock = some i → W.heap.size ≤ i) ∧ Below W.heap.size W w1 := by
  obtain ⟨p, cap, he, h1, h2⟩ := own_form o1
  simp only [Value.slice.injEq, true_and] at he
  obtain ⟨rfl, rfl⟩ := he
  have hs : wr.drew.heap.size = wr.heap.size := rfl
  have hw := hB.size
  refine ⟨h1, h2, own_row o1, fun i hi => ?_, hB.drew.trans (b1.mono (by rw [hs]; exact hw))⟩
  have := own_block_base o1 ((ownB _ _ _ _ _).trans hi)
  omega
theorem enOver : ∀ args w, (callFunc 67 args).run Tryz.prog w = .ok (.enter 67 args) w := enters_of Tryz.func67 (by kernel_rfl) rfl
theorem RRep.drew {W : World} {rb : Nat} {R : RS} (h : RRep W rb R) : RRep W.drew rb R := ⟨h.box, h.lrow, h.prow, h.lb, h.pb, h.sep⟩

set_option maxRecDepth 100000 in
set_option maxHeartbeats 4000000 in
theorem all_any {W : World} {rb : Nat} {R : RS} (h : RRep W rb R) {s : ByteArray} {j : Nat} (hj : atL R.L s.data.toList = some j) (hok : AllOk R.P s.data.toList (R.L[j]!).b) (hP : R.P.length ≤ 2199023255552) :
    Calls Tryz.prog 65 #[.pointer (some ⟨rb, 0, none⟩), .string s] W fun e w' => ∃ p cap, e = .returned (.slice p (allTo R.P s.data.toList (R.L[j]!).b R.P.length).length cap) ∧ Row .u8 w' (.slice p (allTo R.P s.data.toList (R.L[j]!).b R.P.length).length cap) (allTo R.P s.data.toList (R.L[j]!).b R.P.length) ∧
      (∀ i, (Value.slice p 0 0).ownBlock = some i → ((R.L[j]!).bv.ownBlock = some i ∧ allTo R.P s.data.toList (R.L[j]!).b R.P.length = (R.L[j]!).b) ∨ W.heap.size ≤ i) ∧ Below W.heap.size W w' := by
  have HA := hide (at_any h.drew (s := s))
  have e2 : atI R.L s.data.toList = (j : Int) := by simp [atI, hj]
  rw [e2] at HA
  have hjl : j < R.L.length := by
    unfold atL at hj
    exact (List.findIdx?_eq_some_iff_getElem.1 hj).1
  obtain ⟨c0, c1, c2, c3⟩ := h.rcells
  obtain ⟨p, cap, he, h1, h2⟩ := own_form h.lrow
  obtain ⟨pp, pcap, hpe, h3, h4⟩ := own_form h.prow
  have hlr := h.lrow
  rw [he] at c0 hlr
  rw [hpe] at c1
  obtain ⟨g, rfl, d0, d1, _, _⟩ := file_cells hlr rfl hjl
  obtain ⟨f, hf⟩ : ∃ f, R.L[j]! = f := ⟨_, rfl⟩
  have hfm : f ∈ R.L := by rw [← hf, getElem!_pos R.L j hjl]; exact List.getElem_mem _
  rw [hf] at d1 hok ⊢
  obtain ⟨pb, cb, hbe, hb1, hb2, _, _⟩ := id (h.lb f hfm).1
  rw [hbe] at d1
  have HBR := hide (h.lb f hfm).1
  have HBE := hide hbe
  have H := hide h
  have HOK := hide hok
  have HPE := hide hpe
  clear h hj he hpe hlr d0 hfm hbe hok e2 hf
  go_enter Tryz.func65, Tryz.ntmps65
  go_wp2_with fail
  have b0 : W.drew.cell? ⟨rb, 0, none⟩ = some (.slice (some ⟨g, 0, none⟩) R.L.length cap) := c0
  have b1 : W.drew.cell? ⟨g, j * 2 + 1, none⟩ = some (.slice pb f.b.length cb) := d1
  refine region_class (fun X => X = W.drew) (by kernel_rfl) (by kernel_rfl) rfl ?_
  repeat
    first
      | (refine BigFrame.wpQuiet_skip (by rfl) ?_)
      | (refine BigFrame.wpQuiet_want (by rfl) (fun K hK => ?_)
         unfold Oper.quiet
         apply Exists.intro
         refine ⟨fun X hX => ?_, hK _ ?_⟩
         · subst hX
           first
            | (go_simp; done)
            | (go_simp; exact rfl)
            | (go_simp
               go_at_call 62; refine HA.out.mono ?_; rintro e w3 ⟨rfl, rfl⟩; exact ⟨rfl, rfl⟩)
         clear hK K
         simp only [Act.put, List.setIfInBounds_toArray, List.set_cons_zero, List.set_cons_succ])
  refine wpQuiet_nil (fun X hX => ?_)
  have HB0 : Hid (Below W.heap.size W X) := by rw [hX]; exact hide (Below.refl _ W).drew
  have HR0 : Hid (Row .u8 X (.slice pb f.b.length cb) f.b) := by rw [← HBE.out]; exact hide (HBR.out.below HB0.out)
  have HO0 : Hid (∀ i, (Value.slice pb 0 0).ownBlock = some i → (f.bv.ownBlock = some i ∧ allTo R.P s.data.toList f.b 0 = f.b) ∨ W.heap.size ≤ i) := hide (fun i hi => .inl ⟨by rw [HBE.out]; exact (ownB _ _ _ _ _).trans hi, rfl⟩)
  clear hX b0 b1 c0 c2 c3 d1 HBR HA
  go_wp2_with fail
  go_loopw [5, 6] (fun bv i wr => ∃ (k : Nat) (p : Option Addr) (cap : Nat), k ≤ R.P.length ∧ i = .int .i64 (k : Int) ∧ bv = .slice p (allTo R.P s.data.toList f.b k).length cap ∧ (allTo R.P s.data.toList f.b k).length ≤ cap ∧ cap ≤ 9223372036854775807 ∧ Hid (Row .u8 wr (.slice p (allTo R.P s.data.toList f.b k).length cap) (allTo R.P s.data.toList f.b k)) ∧ Hid (∀ i, (Value.slice p 0 0).ownBlock = some i → (f.bv.ownBlock = some i ∧ allTo R.P s.data.toList f.b k = f.b) ∨ W.heap.size ≤ i) ∧ Hid (Below W.heap.size W wr)) (fun _ i _ => R.P.length - (intOf i).toNat)
  case atStart => exact ⟨0, pb, cb, Nat.zero_le _, rfl, rfl, hb1, hb2, HR0, HO0, HB0⟩
  case round =>
    obtain ⟨k, p, cap', hk, rfl, rfl, hq1, hq2, HR, HO, HB⟩ := hrel
    have c1' := cell_later HB.out c1
    clear HB0 HR0 HO0
    by_cases hlt : k < R.P.length
    · have hpr := ownsRow_later H.out.prow HB.out
      rw [HPE.out] at hpr
      obtain ⟨gp, rfl, d0, d1, d2⟩ := pend_cells hpr rfl hlt
      obtain ⟨x, hx⟩ : ∃ x, R.P[k]! = x := ⟨_, rfl⟩
      have hxm : x ∈ R.P := by rw [← hx, getElem!_pos R.P k hlt]; exact List.getElem_mem _
      rw [hx] at d0 d1 d2
      unfold strV at d0
      obtain ⟨px, cx, hxe, hx1, hx2, _, _⟩ := id (H.out.pb x hxm).1
      rw [hxe] at d2
      have HXR := hide ((H.out.pb x hxm).1.below HB.out)
      rw [hxe] at HXR
      have HX := hide hx
      clear hpr hx hxm hxe
      by_cases hq : x.name = s.data.toList
      · have he : (x.name == s.toList) = true := by rw [ByteArray.toList_eq, hq]; simp
        have hsp : x.beg ≤ (allTo R.P s.data.toList f.b k).length := by have := HOK.out.spot k hlt; rw [HX.out] at this; exact this hq
        have hsz : x.b.length ≤ 4194304 := by have := HOK.out.size k hlt; rw [HX.out] at this; exact this hq
        have hln := HOK.out.len k (by omega)
        have hnext : allTo R.P s.data.toList f.b (k + 1) = putL (allTo R.P s.data.toList f.b k) x.beg x.b := by
          show (if (R.P[k]!).name = s.data.toList then putL _ _ _ else _) = _
          rw [HX.out, if_pos hq]
        have HV := hide (over_any (W := wr.drew) (b := allTo R.P s.data.toList f.b k) (x := x.b) (vb := .slice p (allTo R.P s.data.toList f.b k).length cap') (vx := .slice px x.b.length cx) HR.out HXR.out hsp hln hsz)
        rw [← hnext] at HV
        clear hnext
        go_upto_region 6 with fail
        go_region_law (refine step_calls rfl 67 #[.tmp 36, .tmp 44, .tmp 52] #[31, 3, 31] rfl #[.slice p (allTo R.P s.data.toList f.b k).length cap', .int .i64 x.beg, .slice px x.b.length cx] (by simp [Act.eval, *]) enOver _ HV.out ?_; rintro r w1 ⟨p1, c1, rfl, o1, b1⟩; have hrel := over_rel HB.out o1 b1; clear o1 b1; refine ⟨_, rfl, ?_⟩)
        all_goals
          have HRL := hide hrel
          clear hrel
          have hr1 := HRL.out.1
          have hr2 := HRL.out.2.1
          clear HV HXR d0 d1 d2 c1'
          go_wp2
          exact ⟨⟨k + 1, p1, c1, by omega, by go_num, rfl, hr1, hr2, hide HRL.out.2.2.1, hide (fun i hi => .inr (HRL.out.2.2.2.1 i hi)), hide HRL.out.2.2.2.2⟩, by simp [intOf]; omega⟩
      · have he : (x.name == s.toList) = false := by
          rw [ByteArray.toList_eq]
          simpa using hq
        have hsame : allTo R.P s.data.toList f.b (k + 1) = allTo R.P s.data.toList f.b k := by
          show (if (R.P[k]!).name = s.data.toList then _ else _) = _
          rw [HX.out, if_neg hq]
        have HSM := hide hsame
        clear hsame
        go_wp2
        refine ⟨⟨k + 1, p, cap', by omega, by go_num, ?_⟩, by simp [intOf]; omega⟩
        rw [HSM.out]
        exact ⟨rfl, hq1, hq2, HR, HO, HB⟩
    · obtain rfl : k = R.P.length := by omega
      go_wp2
      go_ret
      exact ⟨p, cap', rfl, HR.out, HO.out, HB.out⟩
end Go.Proofs.YtikpckmlnhcddaaGreat
