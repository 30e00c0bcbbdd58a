/-
  The law's same: a store of the program and a reference that are the document's r are told to be the same, whatever is asked. The conditions: lengths.
-/
import Derived.Test.YtikpckmlnhcddaaGreatSma
import Derived.Test.YtikpckmlnhcddaaGreatStp
import Derived.Test.YtikpckmlnhcddaaGreatRcl
namespace Go.Proofs.YtikpckmlnhcddaaGreat
open Go.RowKit Go.Maps

set_option maxRecDepth 100000 in
set_option maxHeartbeats 2000000 in
theorem strs_equal {W : World} {b1 b2 n c d : Nat} {p q : Option Addr} {ns : List Nm} (h1 : W.ownsRow b1 9 1 (.slice p n c) n (ns.map strV)) (h2 : W.ownsRow b2 9 1 (.slice q n d) n (ns.map strV)) (hl : ns.length = n) :
    Calls Tryz.prog 41 #[.slice p n c, .slice q n d] W fun e w' => e = .returned (.bool true) ∧ Below W.heap.size W w' := by
  obtain ⟨_, _, he1, a1, a2⟩ := own_form h1
  simp only [Value.slice.injEq, true_and] at he1
  obtain ⟨rfl, rfl⟩ := he1
  obtain ⟨_, _, he2, a3, a4⟩ := own_form h2
  simp only [Value.slice.injEq, true_and] at he2
  obtain ⟨rfl, rfl⟩ := he2
  have H1 := hide h1
  have H2 := hide h2
  clear h1 h2
  go_enter Tryz.func41, Tryz.ntmps41
  go_wp2_with fail
  go_loopw [13] (fun i wr => ∃ (k : Nat), k ≤ n ∧ i = .int .i64 (k : Int) ∧ Hid (Below W.heap.size W wr)) (fun i _ => n - (intOf i).toNat)
  case atStart => exact ⟨0, Nat.zero_le _, rfl, hide (Below.refl _ _)⟩
  case round =>
    obtain ⟨k, hk, rfl, HB⟩ := hrel
    by_cases hlt : k < n
    · obtain ⟨g1, rfl, d1⟩ := str_cells (ownsRow_later H1.out HB.out) hl hlt
      obtain ⟨g2, rfl, d2⟩ := str_cells (ownsRow_later H2.out HB.out) hl hlt
      unfold strV at d1 d2
      have he : ((ns[k]!) == (ns[k]!)) = true := by simp
      have HB2 : Hid (Below W.heap.size W wr.drew) := hide (HB.out.trans ((Below.refl _ wr).drew))
      go_upto_region 6 with fail
      go_region
      all_goals
        go_wp2
        exact ⟨⟨k + 1, by omega, by go_num, HB2⟩, by simp [intOf]; omega⟩
    · obtain rfl : k = n := by omega
      go_wp2
      go_ret
      exact ⟨rfl, HB.out⟩

theorem own_lit {w : World} {g : Nat} {v : Value} {e : TypeId} (h : w.heap[g]? = some (.cells #[v] e (0, 0))) : w.ownsRow 0 e 1 (.slice (some ⟨g, 0, none⟩) 1 1) 1 [v] :=
  ⟨rfl, .inr ⟨g, 1, #[v], rfl, Nat.zero_le _, h, Nat.le_refl _, by unfold maxLen; omega, rfl, rfl⟩⟩
theorem strV_toList (s : ByteArray) : strV s.data.toList = .string s := by
  unfold strV
  simp
theorem str_one (ns : List Nm) : ∀ u ∈ ns.map strV, u.oneCell' = true := by
  intro u hu
  obtain ⟨m, _, rfl⟩ := List.mem_map.1 hu
  rfl
theorem seg_strs {w : World} {b n c : Nat} {p : Option Addr} {ns : List Nm} (h : w.ownsRow b 9 1 (.slice p n c) n (ns.map strV)) (hn : ns.length = n) : Seg w 1 (.slice p n c) n (ns.map strV) := by
  have := Seg.of_own h (str_one ns) (by simp [hn]) (Nat.le_refl _)
  rw [List.take_of_length_le (by simp [hn])] at this
  exact this
theorem rnames_core {W : World} {rb : Nat} {R : RS} (h : RRep W rb R) (hL : R.L.length ≤ 4194304) {ns : List Nm} (hns : R.core.L.map CF.name = ns) {n : Nat} (hn : ns.length = n) :
    Calls Tryz.prog 42 #[.pointer (some ⟨rb, 0, none⟩)] W fun e w' => ∃ p cap, e = .returned (.slice p n cap) ∧ w'.ownsRow W.heap.size 9 1 (.slice p n cap) n (ns.map strV) ∧ Below W.heap.size W w' := by
  have e1 : R.L.map RF.name = ns := by rw [← hns]; simp [RS.core, RF.core, Function.comp_def]
  have e2 : R.L.length = n := by rw [← hn, ← e1]; simp
  have := rnames_any h hL
  rw [e1, e2] at this
  exact this
theorem lnames_core {W : World} {sb mb N : Nat} {fs : List MF} {r : RC} (h : Prg W sb mb fs r N) {ns : List Nm} (hns : r.L.map CF.name = ns) {n : Nat} (hn : ns.length = n) :
    Calls Tryz.prog 16 #[.pointer (some ⟨sb, 0, none⟩)] W fun e w' => ∃ p cap, e = .returned (.slice p n cap) ∧ w'.ownsRow W.heap.size 9 1 (.slice p n cap) n (ns.map strV) ∧ Below W.heap.size W w' := by
  have := lnames_any h
  rw [hns, hn] at this
  exact this

set_option maxRecDepth 100000 in
set_option maxHeartbeats 8000000 in
theorem same_any {W : World} {sb mb rb N B : Nat} {fs : List MF} {r : RC} {R : RS} (h : Prg W sb mb fs r N) (hR : RRep W rb R) (hr : R.core = r) (hg : Good R) {o : OpV} (ho : o.ok W B) :
    Calls Tryz.prog 10 #[.pointer (some ⟨sb, 0, none⟩), .pointer (some ⟨rb, 0, none⟩), .agg #[.int .i64 o.d, .string o.s, .string o.t, .int .i64 o.k, .int .i64 o.m, .slice o.bp o.b.length o.bc]] W fun e w' => e = .returned (.bool true) ∧ Below W.heap.size W w' := by
  obtain ⟨ns, hns⟩ : ∃ ns, r.L.map CF.name = ns := ⟨_, rfl⟩
  obtain ⟨n, hn⟩ : ∃ n, ns.length = n := ⟨_, rfl⟩
  have hcnt : n ≤ 4096 := by have := h.count; rw [hns, hn] at this; exact this
  have hRL : R.L.length ≤ 4194304 := hg.ok.L
  obtain ⟨pp, pcap, hpe, hp1, hp2⟩ := own_form hR.prow
  obtain ⟨PL, hPL⟩ : ∃ PL, R.P.length = PL := ⟨_, rfl⟩
  have hrP : r.P.length = PL := by rw [← hr, ← hPL]; simp [RS.core]
  have hP1 : PL ≤ 2199023255552 := by rw [← hPL]; exact hg.ok.P
  obtain ⟨LF, hLF⟩ : ∃ LF, r.left = LF := ⟨_, rfl⟩
  obtain ⟨dn, hdn⟩ : ∃ dn, r.down = dn := ⟨_, rfl⟩
  have hRd : R.down = dn := by rw [← hdn, ← hr]; rfl
  have hud : ((!dn) == dn) = false := by cases dn <;> rfl
  rw [hPL] at hpe hp1
  have HRC : Hid (∀ X, Below W.heap.size W X → X.cell? ⟨rb, 1, none⟩ = some (.slice pp PL pcap) ∧ X.cell? ⟨rb, 3, none⟩ = some (.bool dn)) := hide (fun X hX => by
    have := (hR.fresh hX).rcells
    rw [hpe, hRd] at this
    exact ⟨this.2.1, this.2.2.2⟩)
  have HP : Hid (∀ X, Below W.heap.size W X → Prg X sb mb fs r N) := hide (fun X hX => h.only (Only.fresh hX fun _ => False) (fun _ _ e => e) (fun _ _ e => e))
  have HQ : Hid (∀ X, Below W.heap.size W X → RRep X rb R) := hide (fun X hX => hR.fresh hX)
  have HLN : Hid (∀ m ∈ ns, m.length ≤ maxLen) := hide (fun m hm => h.nameLen (by rw [hns]; exact hm))
  have HG := hide hg
  have HR := hide hr
  have HNS := hide hns
  have HN := hide hn
  have HRN : Hid (R.core.L.map CF.name = ns) := by rw [hr]; exact hide hns
  have HO := hide ho
  have hos := ho.ls
  have hk0 := ho.k0
  have hk1 := ho.k1
  have hm0 := ho.m0
  have hm1 := ho.m1
  have HUB : Hid (∀ m, U8 (base r.L m)) := by
    obtain ⟨J, left, pend, turn, _, h2⟩ := h
    exact hide (fun m => base_u8 h2.lu8 m)
  have HU : Hid (∀ m, U8 (r.all m)) := hide (fun m => by rw [← hr]; exact hg.u8 m)
  have HPD : Hid (∀ X, Below W.heap.size W X → Calls Tryz.prog 20 #[.pointer (some ⟨sb, 0, none⟩)] X fun e w' => e = .returned (.int .i64 (PL : Int)) ∧ w' = X) := hide (fun X hX => by
    have := ppending (HP.out X hX)
    rw [hrP] at this
    exact this)
  have HLP : Hid (∀ X, Below W.heap.size W X → Calls Tryz.prog 24 #[.pointer (some ⟨sb, 0, none⟩)] X fun e w' => e = .returned (.int .i64 LF) ∧ w' = X) := hide (fun X hX => by
    have := pleft (HP.out X hX)
    rw [hLF] at this
    exact this)
  have HLR : Hid (∀ X, Below W.heap.size W X → Calls Tryz.prog 43 #[.pointer (some ⟨rb, 0, none⟩)] X fun e w' => e = .returned (.int .i64 LF) ∧ Below X.heap.size X w') := hide (fun X hX => by
    have := left_calls (HQ.out X hX) hg.ok hg.sole
    rw [hr, hLF] at this
    exact this)
  have HUP : Hid (∀ X, Below W.heap.size W X → Calls Tryz.prog 27 #[.pointer (some ⟨sb, 0, none⟩)] X fun e w' => e = .returned (.bool (!dn)) ∧ w' = X) := hide (fun X hX => by
    have := pup (HP.out X hX)
    rw [hdn] at this
    exact this)
  clear h hR hr hg ho hns hn hpe hPL hLF hdn hRd hrP
  go_enter Tryz.func10, Tryz.ntmps10
  go_upto_region 1 with fail
  obtain ⟨W0, hW0⟩ : ∃ W0, W0 = W.alloc (.cells #[.int .i64 o.d, .string o.s, .string o.t, .int .i64 o.k, .int .i64 o.m, .slice o.bp o.b.length o.bc] 33 (0, 0)) := ⟨_, rfl⟩
  rw [← hW0]
  obtain ⟨xB, hxB⟩ : ∃ xB, W.heap.size = xB := ⟨_, rfl⟩
  rw [hxB]
  have HB0 : Hid (Below W.heap.size W W0) := by rw [hW0]; exact hide (alloc_below W _)
  have hbx : W0.heap[xB]? = some (.cells #[.int .i64 o.d, .string o.s, .string o.t, .int .i64 o.k, .int .i64 o.m, .slice o.bp o.b.length o.bc] 33 (0, 0)) := by rw [hW0, ← hxB]; exact heap_alloc_new _ _
  have HOP : Hid (∀ X, Below W0.heap.size W0 X → X.cell? ⟨xB, 1, none⟩ = some (.string o.s) ∧ X.cell? ⟨xB, 3, none⟩ = some (.int .i64 o.k) ∧ X.cell? ⟨xB, 4, none⟩ = some (.int .i64 o.m)) := hide (fun X hX => by
    refine ⟨?_, ?_, ?_⟩ <;> exact cell_later hX (by simp [World.cell?, hbx]))
  have HZ : Hid (∀ X, Below W0.heap.size W0 X → Below W.heap.size W X) := hide (fun X hX => HB0.out.trans (hX.mono HB0.out.size))
  clear hW0 hbx hxB
  obtain ⟨q1, q2⟩ := HRC.out _ (HZ.out _ (Below.refl _ W0).drew)
  have q1' : W0.cell? ⟨rb, 1, none⟩ = some (.slice pp PL pcap) := q1
  have q2' : W0.cell? ⟨rb, 3, none⟩ = some (.bool dn) := q2
  clear q1 q2
  have B0 : Below W0.heap.size W0 W0.drew := (Below.refl _ W0).drew
  go_region_held3 (fun w' => w'.cell? ⟨rb, 1, none⟩ = some (.slice pp PL pcap) ∧ w'.cell? ⟨rb, 3, none⟩ = some (.bool dn)) (go_keep)
    (first
      | (go_at_call 16; refine (lnames_core (HP.out _ (HZ.out _ B0)) HNS.out HN.out).mono ?_; rintro _ w1 ⟨p1, c1, rfl, o1, b1⟩; have B1 : Below W0.heap.size W0 w1 := B0.trans b1; obtain ⟨s1, s2⟩ := HRC.out _ (HZ.out _ B1))
      | (go_at_call 42; refine (rnames_core (HQ.out _ (HZ.out _ B1)) hRL HRN.out HN.out).mono ?_; rintro _ w2 ⟨p2, c2, rfl, o2, b2⟩; have B2 : Below W0.heap.size W0 w2 := B1.trans (b2.mono B1.size); obtain ⟨s3, s4⟩ := HRC.out _ (HZ.out _ B2); have o1' := ownsRow_later o1 b2)
      | (go_at_call 41; refine (strs_equal o1' o2 HN.out).mono ?_; rintro _ w3 ⟨rfl, b3⟩; have B3 : Below W0.heap.size W0 w3 := B2.trans (b3.mono B2.size); obtain ⟨s5, s6⟩ := HRC.out _ (HZ.out _ B3))
      | (go_at_call 20; refine (HPD.out _ (HZ.out _ B3)).mono ?_; rintro _ w3 ⟨rfl, rfl⟩)
      | (go_at_call 24; refine (HLP.out _ (HZ.out _ B3)).mono ?_; rintro _ w3 ⟨rfl, rfl⟩)
      | (go_at_call 43; refine (HLR.out _ (HZ.out _ B3)).mono ?_; rintro _ w4 ⟨rfl, b4⟩; have B4 : Below W0.heap.size W0 w4 := B3.trans (b4.mono B3.size); obtain ⟨s7, s8⟩ := HRC.out _ (HZ.out _ B4))
      | (go_at_call 27; refine (HUP.out _ (HZ.out _ B4)).mono ?_; rintro _ w4 ⟨rfl, rfl⟩))
  have HB4 := hide B4
  clear o1 o1' o2 b1 b2 b3 b4 B0 B1 B2 B3 B4 s1 s2 s3 s4 s5 s6 s7 s8 q1' q2' HPD HLP HLR HUP HRC
  obtain ⟨i0, hI0, hz0, hz1, hz2⟩ := info_parts Tryz.infoSt2
  go_upto_region 3 with fail
  go_cut [62, 63, 64] from 57 (fun s62 s63 s64 wc => ∃ (p : Option Addr) (cap : Nat), s62 = .slice p (n + 1) cap ∧ s63 = .int .i64 ((n : Int) + 1) ∧ s64 = .int .i64 0 ∧ n + 1 ≤ cap ∧ cap ≤ 9223372036854775807 ∧ Hid (wc.ownsRow 0 9 1 (.slice p (n + 1) cap) (n + 1) ((o.s.data.toList :: ns).map strV)) ∧ Hid (Below W0.heap.size W0 wc))
  case first =>
    have x1 : w4.cell? ⟨xB, 1, none⟩ = some (.string o.s) := (HOP.out _ HB4.out).1
    have hx4 : xB < w4.heap.size := by
      obtain ⟨ob, hob, _⟩ := cells_of_cell x1
      exact (Array.getElem?_eq_some_iff.1 hob).1
    have HD : Hid (Below W0.heap.size W0 w4.drew) := hide (HB4.out.trans (Below.refl _ w4).drew)
    have HA : Hid (Below W0.heap.size W0 (w4.drew.alloc (.cells #[.string o.s] 9 (0, 0)))) := hide (HD.out.trans ((alloc_below _ _).mono HD.out.size))
    have HK5 : Hid (1 + n ≤ maxLen) := by show _ ≤ _; unfold maxLen; omega
    have HK6 : Hid ((1 + n) * 16 ≤ 140737488355328) := by show _ ≤ _; omega
    go_region_held3 (fun w' => w'.cell? ⟨xB, 1, none⟩ = some (.string o.s)) (go_keep)
      (first
        | (go_at_call 42; refine (rnames_core (HQ.out _ (HZ.out _ (by first | exact HD.out | exact HA.out))) hRL HRN.out HN.out).mono ?_; rintro _ w5 ⟨p5, c5, rfl, o5, b5⟩; have B5 : Below W0.heap.size W0 w5 := (by first | exact HD.out.trans (b5.mono HD.out.size) | exact HA.out.trans (b5.mono HA.out.size)); have x5 := (HOP.out _ B5).1; have hx5 : xB < w5.heap.size := Nat.lt_of_lt_of_le hx4 (by have := b5.size; simp at this; omega))
        | (refine step_append_cells (by rfl) (.tmp 59) (.tmp 61) 42 (by rfl) 0 9 i0 (.string ⟨#[]⟩) 1 16 Tryz.underlying42 hI0 hz0 hz1 hz2 rfl (by decide) (.slice (some ⟨w4.heap.size, 0, none⟩) 1 1) 1 [.string o.s] (by rfl) (own_lit (below_box b5 (heap_alloc_new _ _))) (.slice p5 n c5) n (ns.map strV) (by rfl) (seg_strs o5 HN.out) HK5.out HK6.out (Nat.zero_le _) ?_; intro p6 c6 w6 o6 g6; have x6 := (Only.of_grown (F := fun i => (Value.slice (some ⟨w4.heap.size, 0, none⟩) 1 1).ownBlock = some i) g6 (fun k e => e)).cell x5 (by simp [Value.ownBlock]; omega); have B6 : Below W0.heap.size W0 w6 := B5.grown g6 B5.size (fun i hi => by have := HB4.out.size; simp [Value.ownBlock] at hi; omega))
        | (refine step_append_cells (by rfl) (.tmp 59) (.tmp 61) 42 (by rfl) 0 9 i0 (.string ⟨#[]⟩) 1 16 Tryz.underlying42 hI0 hz0 hz1 hz2 rfl (by decide) (.slice (some ⟨w5.heap.size, 0, none⟩) 1 1) 1 [.string o.s] (by rfl) (own_lit (heap_alloc_new _ _)) (.slice p5 n c5) n (ns.map strV) (by rfl) (seg_strs (ownsRow_later o5 (alloc_below _ _)) HN.out) HK5.out HK6.out (Nat.zero_le _) ?_; intro p6 c6 w6 o6 g6; have x6 := (Only.of_grown (F := fun i => (Value.slice (some ⟨w5.heap.size, 0, none⟩) 1 1).ownBlock = some i) g6 (fun k e => e)).cell (cell_later (alloc_below _ _) x5) (by simp [Value.ownBlock]; omega); have B6 : Below W0.heap.size W0 w6 := (B5.trans ((alloc_below _ _).mono B5.size)).grown g6 (Nat.le_trans B5.size (by simp)) (fun i hi => by have := B5.size; simp [Value.ownBlock] at hi; omega)))
    all_goals
      obtain ⟨_, _, he6, hc1, hc2⟩ := own_form o6
      simp only [Value.slice.injEq, true_and] at he6
      obtain ⟨rfl, rfl⟩ := he6
      have HO6 : Hid (w6.ownsRow 0 9 1 (.slice p6 (n + 1) c6) (n + 1) ((o.s.data.toList :: ns).map strV)) := by
        rw [Nat.add_comm 1 n] at o6
        rw [List.map_cons, strV_toList]
        exact hide o6
      have HB6 := hide B6
      clear o6 g6 B6
      go_wp2_with fail
      go_meet
      case rel =>
        exact ⟨p6, c6, by rw [Nat.add_comm], by go_num, rfl, by omega, hc2, HO6, HB6⟩
  case rest =>
    obtain ⟨p6, c6, rfl, rfl, rfl, hc1, hc2, HO6, HB6⟩ := hcut
    rename World => w6
    obtain ⟨ms, hms⟩ : ∃ ms, ms = o.s.data.toList :: ns := ⟨_, rfl⟩
    rw [← hms] at HO6
    have hml : ms.length = n + 1 := by rw [hms, ← HN.out]; rfl
    have HML : Hid (∀ m ∈ ms, m.length ≤ maxLen) := by
      refine hide (fun m hm => ?_)
      rw [hms] at hm
      rcases List.mem_cons.1 hm with rfl | hm
      · exact str_len hos
      · exact HLN.out m hm
    clear hms HLN
    go_wp2_with fail
    go_loopw [64] (fun i wr => ∃ (k : Nat), k ≤ n + 1 ∧ i = .int .i64 (k : Int) ∧ Hid (Below w6.heap.size w6 wr)) (fun i _ => n + 1 - (intOf i).toNat)
    case atStart => exact ⟨0, Nat.zero_le _, rfl, hide (Below.refl _ _)⟩
    case round =>
      obtain ⟨k, hk, rfl, HBk⟩ := hrel
      have HBw : Hid (Below W0.heap.size W0 wr) := hide (HB6.out.trans (HBk.out.mono HB6.out.size))
      by_cases hlt : k < n + 1
      · obtain ⟨g, rfl, d0⟩ := str_cells (ownsRow_later HO6.out HBk.out) hml hlt
        obtain ⟨nm, hnm⟩ : ∃ nm, ms[k]! = nm := ⟨_, rfl⟩
        rw [hnm] at d0
        unfold strV at d0
        have hnl : (⟨nm.toArray⟩ : ByteArray).size ≤ maxLen := by
          have := HML.out nm (by rw [← hnm, getElem!_pos ms k (by omega)]; exact List.getElem_mem _)
          simpa [ByteArray.size] using this
        obtain ⟨s, hs⟩ : ∃ s : ByteArray, (⟨nm.toArray⟩ : ByteArray) = s := ⟨_, rfl⟩
        rw [hs] at d0 hnl
        clear hs hnm
        obtain ⟨SZ, hSZ⟩ : ∃ SZ, r.sizeN s.data.toList = SZ := ⟨_, rfl⟩
        have hSZ1 : SZ ≤ 4194304 := by
          rw [← hSZ]
          unfold RC.sizeN
          by_cases hm : r.may s.data.toList = 0
          · rw [if_pos hm]
            obtain ⟨_, j, hj⟩ := may_zero (R := R) (n := s.data.toList) (by rw [HR.out]; exact hm)
            have := all_len HG.out.ok HG.out.sole hj
            rw [HR.out] at this
            exact this
          · rw [if_neg hm]; omega
        obtain ⟨E, hE⟩ : ∃ E, r.may s.data.toList = E := ⟨_, rfl⟩
        obtain ⟨y1, hy1⟩ : ∃ y, r.readB s.data.toList 0 (SZ : Int) = y := ⟨_, rfl⟩
        obtain ⟨l1, hl1⟩ : ∃ l, y1.length = l := ⟨_, rfl⟩
        obtain ⟨E1, hE1⟩ : ∃ E, r.readE s.data.toList 0 (SZ : Int) = E := ⟨_, rfl⟩
        obtain ⟨y2, hy2⟩ : ∃ y, r.sureB s.data.toList = y := ⟨_, rfl⟩
        obtain ⟨l2, hl2⟩ : ∃ l, y2.length = l := ⟨_, rfl⟩
        obtain ⟨y3, hy3⟩ : ∃ y, r.readB s.data.toList o.k o.m = y := ⟨_, rfl⟩
        obtain ⟨l3, hl3⟩ : ∃ l, y3.length = l := ⟨_, rfl⟩
        obtain ⟨E3, hE3⟩ : ∃ E, r.readE s.data.toList o.k o.m = E := ⟨_, rfl⟩
        have ru : ∀ (a b : Int), U8 (r.readB s.data.toList a b) := fun a b => by
          unfold RC.readB
          split
          · exact ((HU.out _).drop _).take _
          · intro x hx; simp at hx
        have HU1 : Hid (U8 y1) := by rw [← hy1]; exact hide (ru _ _)
        have HU3 : Hid (U8 y3) := by rw [← hy3]; exact hide (ru _ _)
        have HU2 : Hid (U8 y2) := by
          rw [← hy2]
          unfold RC.sureB
          split
          · exact hide (HUB.out _)
          · exact hide (fun x hx => by simp at hx)
        have C1 : Hid (∀ X, Below W0.heap.size W0 X → Calls Tryz.prog 29 #[.pointer (some ⟨sb, 0, none⟩), .string s] X fun e w' => e = .returned (.tuple #[.int .i64 (SZ : Int), .int .i64 E]) ∧ w' = X) := hide (fun X hX => by
          have := psize_any (HP.out _ (HZ.out _ hX)) hnl
          rw [hSZ, hE] at this
          exact this)
        have C2 : Hid (∀ X, Below W0.heap.size W0 X → Calls Tryz.prog 44 #[.pointer (some ⟨rb, 0, none⟩), .string s] X fun e w' => e = .returned (.tuple #[.int .i64 (SZ : Int), .int .i64 E]) ∧ Below X.heap.size X w') := hide (fun X hX => by
          have := rsize_any (HQ.out _ (HZ.out _ hX)) HG.out.ok HG.out.sole (s := s)
          rw [HR.out, hSZ, hE] at this
          exact this)
        have C3 : Hid (∀ X, Below W0.heap.size W0 X → Calls Tryz.prog 28 #[.pointer (some ⟨sb, 0, none⟩), .string s, .int .i64 0, .int .i64 (SZ : Int)] X (BPost X y1 l1 E1)) := hide (fun X hX => pread_any (HP.out _ (HZ.out _ hX)) hnl (by omega) hy1 hl1 hE1)
        have C4 : Hid (∀ X, Below W0.heap.size W0 X → Calls Tryz.prog 45 #[.pointer (some ⟨rb, 0, none⟩), .string s, .int .i64 0, .int .i64 (SZ : Int)] X (BPost X y1 l1 E1)) := hide (fun X hX => qread_any (HQ.out _ (HZ.out _ hX)) HG.out (by omega) (by rw [HR.out]; exact hy1) hl1 (by rw [HR.out]; exact hE1))
        have C5 : Hid (∀ X, Below W0.heap.size W0 X → Calls Tryz.prog 17 #[.pointer (some ⟨sb, 0, none⟩), .string s] X (BPost X y2 l2 E)) := hide (fun X hX => psure_any (HP.out _ (HZ.out _ hX)) (by rw [← HR.out]; have := HG.out.ok.P; simpa [RS.core] using this) hnl hy2 hl2 hE)
        have C6 : Hid (∀ X, Below W0.heap.size W0 X → Calls Tryz.prog 46 #[.pointer (some ⟨rb, 0, none⟩), .string s] X (BPost X y2 l2 E)) := hide (fun X hX => qsure_any (HQ.out _ (HZ.out _ hX)) HG.out (by rw [HR.out]; exact hy2) hl2 (by rw [HR.out]; exact hE))
        have C7 : Hid (∀ X, Below W0.heap.size W0 X → Calls Tryz.prog 28 #[.pointer (some ⟨sb, 0, none⟩), .string s, .int .i64 o.k, .int .i64 o.m] X (BPost X y3 l3 E3)) := hide (fun X hX => pread_any (HP.out _ (HZ.out _ hX)) hnl hm1 hy3 hl3 hE3)
        have C8 : Hid (∀ X, Below W0.heap.size W0 X → Calls Tryz.prog 45 #[.pointer (some ⟨rb, 0, none⟩), .string s, .int .i64 o.k, .int .i64 o.m] X (BPost X y3 l3 E3)) := hide (fun X hX => qread_any (HQ.out _ (HZ.out _ hX)) HG.out hm1 (by rw [HR.out]; exact hy3) hl3 (by rw [HR.out]; exact hE3))
        clear hSZ hE hy1 hl1 hE1 hy2 hl2 hy3 hl3 hE3 ru
        go_wp2_with fail
        refine (C1.out _ HBw.out).mono ?_
        rintro _ wr ⟨rfl, rfl⟩
        clear C1
        go_wp2_with fail
        refine (C2.out _ HBw.out).mono ?_
        rintro _ v2 ⟨rfl, b2⟩
        have HV2 : Hid (Below W0.heap.size W0 v2) := hide (HBw.out.trans (b2.mono HBw.out.size))
        have HK2 : Hid (Below w6.heap.size w6 v2) := hide (HBk.out.trans (b2.mono HBk.out.size))
        clear b2 C2 HBw HBk d0
        go_wp2_with fail
        refine (C3.out _ HV2.out).mono ?_
        rintro _ v3 ⟨pa, ca, rfl, ra, b3⟩
        have HV3 : Hid (Below W0.heap.size W0 v3) := hide (HV2.out.trans (b3.mono HV2.out.size))
        have HK3 : Hid (Below w6.heap.size w6 v3) := hide (HK2.out.trans (b3.mono HK2.out.size))
        have RA := hide ra
        clear b3 ra C3 HV2 HK2
        go_wp2_with fail
        refine (C4.out _ HV3.out).mono ?_
        rintro _ v4 ⟨pb, cb, rfl, rb', b4⟩
        have HV4 : Hid (Below W0.heap.size W0 v4) := hide (HV3.out.trans (b4.mono HV3.out.size))
        have HK4 : Hid (Below w6.heap.size w6 v4) := hide (HK3.out.trans (b4.mono HK3.out.size))
        have RA4 := hide (RA.out.below b4)
        have RB := hide rb'
        clear b4 rb' C4 HV3 HK3 RA
        go_wp2_with fail
        refine (C5.out _ HV4.out).mono ?_
        rintro _ v5 ⟨pc, cc, rfl, rc, b5⟩
        have HV5 : Hid (Below W0.heap.size W0 v5) := hide (HV4.out.trans (b5.mono HV4.out.size))
        have HK5 : Hid (Below w6.heap.size w6 v5) := hide (HK4.out.trans (b5.mono HK4.out.size))
        have RA5 := hide (RA4.out.below b5)
        have RB5 := hide (RB.out.below b5)
        have RC' := hide rc
        clear b5 rc C5 HV4 HK4 RA4 RB
        go_wp2_with fail
        refine (C6.out _ HV5.out).mono ?_
        rintro _ v6 ⟨pd, cd, rfl, rd, b6⟩
        have HV6 : Hid (Below W0.heap.size W0 v6) := hide (HV5.out.trans (b6.mono HV5.out.size))
        have HK6 : Hid (Below w6.heap.size w6 v6) := hide (HK5.out.trans (b6.mono HK5.out.size))
        have RA6 := hide (RA5.out.below b6)
        have RB6 := hide (RB5.out.below b6)
        have RC6 := hide (RC'.out.below b6)
        have RD := hide rd
        obtain ⟨_, x3, x4⟩ := HOP.out _ HV6.out
        clear b6 rd C6 HV5 HK5 RA5 RB5 RC'
        go_wp2_with fail
        refine (C7.out _ HV6.out).mono ?_
        rintro _ v7 ⟨pe, ce, rfl, re, b7⟩
        have HV7 : Hid (Below W0.heap.size W0 v7) := hide (HV6.out.trans (b7.mono HV6.out.size))
        have HK7 : Hid (Below w6.heap.size w6 v7) := hide (HK6.out.trans (b7.mono HK6.out.size))
        have RA7 := hide (RA6.out.below b7)
        have RB7 := hide (RB6.out.below b7)
        have RC7 := hide (RC6.out.below b7)
        have RD7 := hide (RD.out.below b7)
        have RE := hide re
        clear x3 x4
        obtain ⟨_, x3, x4⟩ := HOP.out _ HV7.out
        clear b7 re C7 HV6 HK6 RA6 RB6 RC6 RD
        go_wp2_with fail
        refine (C8.out _ HV7.out).mono ?_
        rintro _ v8 ⟨pf, cf, rfl, rf, b8⟩
        have HK8 : Hid (Below w6.heap.size w6 v8) := hide (HK7.out.trans (b8.mono HK7.out.size))
        have EA := hide (equal_any (RA7.out.below b8) (RB7.out.below b8) HU1.out HU1.out)
        have EC := hide (equal_any (RC7.out.below b8) (RD7.out.below b8) HU2.out HU2.out)
        have EE := hide (equal_any (RE.out.below b8) rf HU3.out HU3.out)
        clear b8 rf C8 HV7 HK7 RA7 RB7 RC7 RD7 RE x3 x4
        go_wp2_with fail
        refine EA.out.mono ?_
        rintro _ v8 ⟨rfl, rfl⟩
        go_wp2_with fail
        refine EC.out.mono ?_
        rintro _ v8 ⟨rfl, rfl⟩
        go_wp2_with fail
        refine EE.out.mono ?_
        rintro _ v8 ⟨rfl, rfl⟩
        go_wp2
        exact ⟨⟨k + 1, by omega, by go_num, HK8⟩, by simp [intOf]; omega⟩
      · obtain rfl : k = n + 1 := by omega
        go_wp2
        go_ret
        exact ⟨rfl, HZ.out _ HBw.out⟩
end Go.Proofs.YtikpckmlnhcddaaGreat
