/-
  Len, Register, Vector, Done, enter, Fence, enterNamed of the program's sink, and of one that no call made. The conditions: that it lies there.
-/
import Derived.Test.YtboofnkajjnmeaaSkh
import Derived.Test.YtboofnkajjnmeaaSki
namespace Go.Proofs.Ytboofnkajjnmeaa
open Go.RowKit

set_option maxRecDepth 100000 in
set_option maxHeartbeats 2000000 in
theorem len_any {W : World} {B : Nat} {k : PK} (h : PS B W k) :
    Calls Try.prog 29 #[.pointer (some ⟨k.b, 0, none⟩)] W fun e w' => e = .returned (.int .i64 (k.out.length : Int)) ∧ w' = W := by
  have HP := hide h
  have u1 := h.c1
  clear h
  go_enter Try.func29, Try.ntmps29
  go_wp2_with fail
  refine (made_yes HP.out).mono ?_
  rintro _ _ ⟨rfl, rfl⟩
  go_wp2
  go_ret
  exact ⟨rfl, rfl⟩
set_option maxRecDepth 100000 in
set_option maxHeartbeats 2000000 in
theorem register_any {W : World} {B : Nat} {k : PK} (h : PS B W k) :
    Calls Try.prog 17 #[.pointer (some ⟨k.b, 0, none⟩)] W fun e w' => e = .returned (.int .i64 k.reg) ∧ w' = W := by
  have HP := hide h
  have u0 := h.c0
  clear h
  go_enter Try.func17, Try.ntmps17
  go_wp2_with fail
  refine (made_yes HP.out).mono ?_
  rintro _ _ ⟨rfl, rfl⟩
  go_wp2
  go_ret
  exact ⟨rfl, rfl⟩
def OwnI (W : World) (n : Nat) (l : List Int) (e : Ending) (w' : World) : Prop := ∃ p c, e = .returned (.slice p n c) ∧ w'.ownsRow W.heap.size 2 1 (.slice p n c) n (l.flatMap intCells) ∧ Below W.heap.size W w'
set_option maxRecDepth 100000 in
set_option maxHeartbeats 2000000 in
theorem vector_call {W : World} {B : Nat} {k : PK} (h : PS B W k) :
    Calls Try.prog 16 #[.pointer (some ⟨k.b, 0, none⟩)] W (OwnI W k.vec.length k.vec) := by
  have HP := hide h
  have u2 := h.c2
  have HL : Hid (k.vec.length ≤ 4) := hide h.ok.parts.2
  clear h
  go_enter Try.func16, Try.ntmps16
  go_wp2_with fail
  refine (made_yes HP.out).mono ?_
  rintro _ _ ⟨rfl, rfl⟩
  go_wp2_with fail
  refine (intClone HP.out.vrow rfl (by have := HL.out; omega)).mono ?_
  rintro _ w1 ⟨p, c, rfl, h1, h2⟩
  have H1 := hide h1
  have H2 := hide h2
  clear h1 h2 u2
  go_wp2
  go_ret
  exact ⟨p, c, rfl, H1.out, H2.out⟩
attribute [local irreducible] wpQuiet in
set_option maxRecDepth 100000 in
set_option maxHeartbeats 4000000 in
theorem done_any {W : World} {B : Nat} {k : PK} {e i : Int} (h : PS B W k) (hd : k.done.length < 4611686018427387904) {rb : Bool} (hrb : doneC k.sk e i = rb) :
    Calls Try.prog 26 #[.pointer (some ⟨k.b, 0, none⟩), .agg #[.int .i64 e, .int .i64 i]] W fun e w' => e = .returned (.bool rb) ∧ Below W.heap.size W w' := by
  by_cases he : e = k.reg
  ·
    subst he
    have HRB : Hid (decide (i ∈ k.done) = rb) := hide (by rw [← hrb]; show decide (i ∈ k.done) = decide (k.reg = k.reg ∧ i ∈ k.done); simp)
    have HD := hide hd
    clear hrb hd
    have HP := hide h
    clear h
    obtain ⟨V, hV⟩ : ∃ V, V = W.alloc (.cells #[.int .i64 k.reg, .int .i64 i] 55 (0, 0)) := ⟨_, rfl⟩
    have HV : Hid (V.heap[W.heap.size]? = some (.cells #[.int .i64 k.reg, .int .i64 i] 55 (0, 0))) := hide (by rw [hV]; exact heap_alloc_new W _)
    have HBV : Hid (Below W.heap.size W V) := hide (by rw [hV]; exact alloc_below _ _)
    obtain ⟨bB, hbB⟩ : ∃ bB, W.heap.size = bB := ⟨_, rfl⟩
    rw [hbB] at HV HBV
    have HZbB := hide hbB
    have HPV : Hid (PS B V k) := hide (HP.out.later (by rw [hV]; exact alloc_below _ _))
    go_enter Try.func26, Try.ntmps26
    go_upto_region 1 with fail
    rw [← hV]
    try rw [hbB]
    clear hV hbB
    have u0 := cellB HV.out (i := 0) rfl
    have u1 := cellB HV.out (i := 1) rfl
    refine region_class (fun X => Below V.heap.size V X) (by kernel_rfl) (by kernel_rfl) (Below.refl _ V).drew ?_
    repeat
      first
        | (refine BigFrame.wpQuiet_skip (by rfl) ?_
           simp only [Act.put, List.setIfInBounds_toArray, List.set_cons_zero, List.set_cons_succ])
        | (refine BigFrame.wpQuiet_want (by rfl) (fun K hK => ?_)
           unfold Oper.quiet
           apply Exists.intro
           refine ⟨fun X hX => ?_, hK _ ?_⟩
           · have l0 := cell_later hX u0
             have l1 := cell_later hX u1
             have m0 := (HPV.out.later hX).c0
             first
              | (go_simp; done)
              | (go_simp; exact rfl)
              | (go_simp
                 first
                 | (go_at_call 43; refine (made_yes (HPV.out.later hX)).mono ?_; rintro e w3 ⟨rfl, rfl⟩; exact ⟨rfl, hX⟩)
                )
           clear hK K
           simp only [Act.put, List.setIfInBounds_toArray, List.set_cons_zero, List.set_cons_succ])
    refine wpQuiet_nil (fun X hX => ?_)
    have HBX := hide (below_next HBV.out hX (Nat.le_of_lt (box_lt HV.out)))
    have HPX := hide (HPV.out.later hX)
    have HXX := hide (below_box hX HV.out)
    clear hX u0 u1
    have u0 := cellB HXX.out (i := 0) rfl
    have u1 := cellB HXX.out (i := 1) rfl
    go_upto_region 3 with fail
    refine region_class (fun Y => Below X.heap.size X Y) (by kernel_rfl) (by kernel_rfl) (Below.refl _ X).drew ?_
    repeat
      first
        | (refine BigFrame.wpQuiet_skip (by rfl) ?_
           simp only [Act.put, List.setIfInBounds_toArray, List.set_cons_zero, List.set_cons_succ])
        | (refine BigFrame.wpQuiet_want (by rfl) (fun K hK => ?_)
           unfold Oper.quiet
           apply Exists.intro
           refine ⟨fun Y hX => ?_, hK _ ?_⟩
           · have l0 := cell_later hX u0
             have l1 := cell_later hX u1
             have m3 := (HPX.out.later hX).c3
             first
              | (go_simp; done)
              | (go_simp; exact rfl)
              | (go_simp
                 first
                 | (go_at_call 54; refine (bs_any (HPX.out.later hX).drow rfl HD.out (HP.out.ok.done.1.imp (fun h => Int.le_of_lt h)) rfl HRB.out).mono ?_; rintro e w3 ⟨rfl, hb3⟩; exact ⟨rfl, hX.trans (hb3.mono hX.size)⟩)
                )
           clear hK K
           simp only [Act.put, List.setIfInBounds_toArray, List.set_cons_zero, List.set_cons_succ])
    refine wpQuiet_nil (fun Y hX => ?_)
    have HBE := hide (below_next HBX.out hX (Nat.le_of_lt (box_lt HXX.out)))
    clear hX
    go_wp2
    go_ret
    exact ⟨rfl, by rw [HZbB.out]; exact HBE.out⟩
  ·
    have HF : Hid (rb = false) := hide (by rw [← hrb]; exact decide_eq_false (fun h => he h.1))
    have q1 : (e != k.reg) = true := ne_ne8 he
    clear hrb hd he
    have HP := hide h
    clear h
    obtain ⟨V, hV⟩ : ∃ V, V = W.alloc (.cells #[.int .i64 e, .int .i64 i] 55 (0, 0)) := ⟨_, rfl⟩
    have HV : Hid (V.heap[W.heap.size]? = some (.cells #[.int .i64 e, .int .i64 i] 55 (0, 0))) := hide (by rw [hV]; exact heap_alloc_new W _)
    have HBV : Hid (Below W.heap.size W V) := hide (by rw [hV]; exact alloc_below _ _)
    obtain ⟨bB, hbB⟩ : ∃ bB, W.heap.size = bB := ⟨_, rfl⟩
    rw [hbB] at HV HBV
    have HZbB := hide hbB
    have HPV : Hid (PS B V k) := hide (HP.out.later (by rw [hV]; exact alloc_below _ _))
    go_enter Try.func26, Try.ntmps26
    go_upto_region 1 with fail
    rw [← hV]
    try rw [hbB]
    clear hV hbB
    have u0 := cellB HV.out (i := 0) rfl
    have u1 := cellB HV.out (i := 1) rfl
    refine region_class (fun X => Below V.heap.size V X) (by kernel_rfl) (by kernel_rfl) (Below.refl _ V).drew ?_
    repeat
      first
        | (refine BigFrame.wpQuiet_skip (by rfl) ?_
           simp only [Act.put, List.setIfInBounds_toArray, List.set_cons_zero, List.set_cons_succ])
        | (refine BigFrame.wpQuiet_want (by rfl) (fun K hK => ?_)
           unfold Oper.quiet
           apply Exists.intro
           refine ⟨fun X hX => ?_, hK _ ?_⟩
           · have l0 := cell_later hX u0
             have l1 := cell_later hX u1
             have m0 := (HPV.out.later hX).c0
             first
              | (go_simp; done)
              | (go_simp; exact rfl)
              | (go_simp
                 first
                 | (go_at_call 43; refine (made_yes (HPV.out.later hX)).mono ?_; rintro e w3 ⟨rfl, rfl⟩; exact ⟨rfl, hX⟩)
                )
           clear hK K
           simp only [Act.put, List.setIfInBounds_toArray, List.set_cons_zero, List.set_cons_succ])
    refine wpQuiet_nil (fun X hX => ?_)
    have HBX := hide (below_next HBV.out hX (Nat.le_of_lt (box_lt HV.out)))
    clear hX
    go_wp2
    go_ret
    exact ⟨by rw [HF.out]; rfl, by rw [HZbB.out]; exact HBX.out⟩
theorem raise_ok {s : SK} (h : okS s) {e : Int} (he : posI e) : okS ⟨e, s.out, s.vec, [], []⟩ :=
  ⟨⟨by unfold posI at he; show (0 : Int) ≤ e; omega, he.2⟩, h.out, h.parts, h.vec, ⟨List.Pairwise.nil, by simp⟩, by simp, List.Pairwise.nil, by simp, fun h0 => by unfold posI at he; have h0' : e = 0 := h0; omega⟩
set_option maxRecDepth 100000 in
set_option maxHeartbeats 2000000 in
theorem enter_any {W : World} {B : Nat} {k : PK} {e : Int} (h : PS B W k) (he : posI e) :
    Calls Try.prog 48 #[.pointer (some ⟨k.b, 0, none⟩), .int .i64 e] W fun r w' => r = .returned (.int .i64 (entC k.sk e)) ∧ Put B W k (raisC k.sk e) w' := by
  by_cases h1 : e < k.reg
  · have e1 : decide (e < k.reg) = true := decide_eq_true h1
    have HQ : Hid (entC k.sk e = 150 ∧ raisC k.sk e = k.sk) := hide ⟨if_pos h1, if_neg (by show ¬ k.reg < e; omega)⟩
    rw [HQ.out.1, HQ.out.2]
    have HP := hide h
    have u0 := h.c0
    clear h h1 he
    go_enter Try.func48, Try.ntmps48
    go_wp2
    go_ret
    exact ⟨rfl, Put.same HP.out (Below.refl _ _)⟩
  · have e1 : decide (e < k.reg) = false := decide_eq_false h1
    by_cases h2 : k.reg < e
    · have e2 : decide (e > k.reg) = true := decide_eq_true h2
      have HQ : Hid (entC k.sk e = 0 ∧ raisC k.sk e = ⟨e, k.out, k.vec, [], []⟩) := hide ⟨if_neg h1, if_pos h2⟩
      rw [HQ.out.1, HQ.out.2]
      obtain ⟨W2, hW2⟩ : ∃ W2, W2 = (W.setCell ⟨k.b, 0, none⟩ (.int .i64 e)).setCell ⟨k.b, 3, none⟩ (.slice none 0 0) := ⟨_, rfl⟩
      have ho2 : Only (· = k.b) W W2 := by rw [hW2]; exact (Only.set (F := (· = k.b)) W k.b 0 _ rfl).trans (Only.set (F := (· = k.b)) _ k.b 3 _ rfl)
      have hb2 : W2.heap[k.b]? = some (.cells #[.int .i64 e, .slice k.op k.out.length k.oc, .slice k.vp k.vec.length k.vc, .slice none 0 0, .map (some k.mb)] 63 (0, 0)) := by
        rw [hW2]; exact heap_set_sameL (heap_set_sameL h.box 0 _) 3 _
      have hmb := h.map.box h.box
      have hm2 := h.map.only ho2 hmb
      obtain ⟨W3, hr, hm3, ho3⟩ := hm2.clear 0
      have HR := hide hr
      have HO : Hid (Only (fun i => i = k.b ∨ i = k.mb) W W3) := hide ((ho2.mono (fun i _ e => .inl e)).trans (ho3.mono (fun i _ e => .inr e)))
      have HB3 := hide (ho3.obj hb2 (fun e => hmb e.symm))
      have HM3 := hide hm3
      have HP := hide h
      have HE := hide he
      have u0 := h.c0
      have u3 := h.c3
      have z0 := frB h.box (i := 0)
      have z3 := frB h.box (i := 3)
      have v4 : W2.cell? ⟨k.b, 4, none⟩ = some (.map (some k.mb)) := cellB hb2 rfl
      clear h h1 h2 he ho2 hb2 hmb hm2 hr hm3 ho3
      go_enter Try.func48, Try.ntmps48
      go_upto_region 5 with fail
      rw [← hW2]
      clear hW2
      have hr := HR.out
      go_wp2
      go_ret
      have hP := HP.out
      have hok : okS ⟨e, k.out, k.vec, [], []⟩ := raise_ok hP.ok HE.out
      refine ⟨rfl, ⟨k.b, k.mb, k.op, k.oc, k.vp, k.vc, none, 0, e, k.out, k.vec, [], []⟩, ⟨HB3.out, HM3.out, ?_, ?_, World.ownsRow_nil _ _ _ _, fun x hx => (by cases hx), ⟨fun i _ hi => (by obtain ⟨a, ha, _⟩ := hi; cases ha), fun x hx => (by cases hx)⟩, hP.ge, hok⟩, rfl, rfl, HO.out.mono (fun i _ hi => by rcases hi with hi | hi; exact .inl hi; exact .inr (.inl hi)), fun i hi => .inl ?_⟩
      · exact ownsRow_only hP.out HO.out (fun i hi hf => by rcases hf with hf | hf; exact row_box hP.out hP.box (by decide) i (InB.of hi) hf; exact row_map hP.out hP.map i (InB.of hi) hf)
      · exact ownsRow_only hP.vec HO.out (fun i hi hf => by rcases hf with hf | hf; exact row_box hP.vec hP.box (by decide) i (InB.of hi) hf; exact row_map hP.vec hP.map i (InB.of hi) hf)
      · rcases hi with hi | hi | hi | hi | hi | ⟨x, hx, _⟩
        · exact .inl hi
        · exact .inr (.inl hi)
        · exact .inr (.inr (.inl hi))
        · exact .inr (.inr (.inr (.inl hi)))
        · obtain ⟨a, ha, _⟩ := hi; cases ha
        · cases hx
    · have e2 : decide (e > k.reg) = false := decide_eq_false h2
      have HQ : Hid (entC k.sk e = 0 ∧ raisC k.sk e = k.sk) := hide ⟨if_neg h1, if_neg h2⟩
      rw [HQ.out.1, HQ.out.2]
      have HP := hide h
      have u0 := h.c0
      clear h h1 h2 he
      go_enter Try.func48, Try.ntmps48
      go_wp2
      go_ret
      exact ⟨rfl, Put.same HP.out (Below.refl _ _)⟩
set_option maxRecDepth 100000 in
set_option maxHeartbeats 2000000 in
theorem fence_any {W : World} {B : Nat} {k : PK} {e : Int} (h : PS B W k) :
    Calls Try.prog 14 #[.pointer (some ⟨k.b, 0, none⟩), .int .i64 e] W fun r w' => r = .returned (.int .i64 (fenE k.sk e)) ∧ Put B W k (fenS k.sk e) w' := by
  by_cases he : posI e
  · have HQ : Hid (fenE k.sk e = entC k.sk e ∧ fenS k.sk e = raisC k.sk e) := hide ⟨if_pos he, if_pos he⟩
    rw [HQ.out.1, HQ.out.2]
    have HP := hide h
    have HE := hide he
    clear h he
    go_enter Try.func14, Try.ntmps14
    go_wp2_with fail
    refine (made_yes HP.out).mono ?_
    rintro _ _ ⟨rfl, rfl⟩
    go_wp2_with fail
    refine (isId_any (decide_eq_true HE.out)).mono ?_
    rintro _ _ ⟨rfl, rfl⟩
    go_wp2_with fail
    refine (enter_any HP.out HE.out).mono ?_
    rintro _ w1 ⟨rfl, hp⟩
    have HU := hide hp
    clear hp
    go_wp2
    go_ret
    exact ⟨rfl, HU.out⟩
  · have HQ : Hid (fenE k.sk e = 1 ∧ fenS k.sk e = k.sk) := hide ⟨if_neg he, if_neg he⟩
    rw [HQ.out.1, HQ.out.2]
    have HP := hide h
    have HE := hide he
    clear h he
    go_enter Try.func14, Try.ntmps14
    go_wp2_with fail
    refine (made_yes HP.out).mono ?_
    rintro _ _ ⟨rfl, rfl⟩
    go_wp2_with fail
    refine (isId_any (decide_eq_false HE.out)).mono ?_
    rintro _ _ ⟨rfl, rfl⟩
    go_wp2
    go_ret
    exact ⟨rfl, Put.same HP.out (Below.refl _ _)⟩
set_option maxRecDepth 100000 in
set_option maxHeartbeats 2000000 in
theorem enterNamed_any {W : World} {B : Nat} {k : PK} {e i : Int} (h : PS B W k) :
    Calls Try.prog 53 #[.pointer (some ⟨k.b, 0, none⟩), .agg #[.int .i64 e, .int .i64 i]] W fun r w' => r = .returned (.int .i64 (if posI e ∧ posI i then entC k.sk e else 1)) ∧ Put B W k (if posI e ∧ posI i then raisC k.sk e else k.sk) w' := by
  by_cases he : posI e ∧ posI i
  ·
    have HQ : Hid ((if posI e ∧ posI i then entC k.sk e else 1) = entC k.sk e ∧ (if posI e ∧ posI i then raisC k.sk e else k.sk) = raisC k.sk e) := hide ⟨if_pos he, if_pos he⟩
    rw [HQ.out.1, HQ.out.2]
    have HP := hide h
    have HE := hide he
    clear h he
    obtain ⟨V, hV⟩ : ∃ V, V = W.alloc (.cells #[.int .i64 e, .int .i64 i] 55 (0, 0)) := ⟨_, rfl⟩
    have HV : Hid (V.heap[W.heap.size]? = some (.cells #[.int .i64 e, .int .i64 i] 55 (0, 0))) := hide (by rw [hV]; exact heap_alloc_new W _)
    have HBV : Hid (Below W.heap.size W V) := hide (by rw [hV]; exact alloc_below _ _)
    obtain ⟨bB, hbB⟩ : ∃ bB, W.heap.size = bB := ⟨_, rfl⟩
    rw [hbB] at HV HBV
    have HZbB := hide hbB
    have HPV : Hid (PS B V k) := hide (HP.out.later (by rw [hV]; exact alloc_below _ _))
    go_enter Try.func53, Try.ntmps53
    go_upto_region 1 with fail
    rw [← hV]
    try rw [hbB]
    clear hV hbB
    have u0 := cellB HV.out (i := 0) rfl
    have u1 := cellB HV.out (i := 1) rfl
    go_wp2_with fail
    refine (made_yes HPV.out).mono ?_
    rintro _ _ ⟨rfl, rfl⟩
    go_wp2_with fail
    refine (isName_any (decide_eq_true HE.out)).mono ?_
    rintro _ w1 ⟨rfl, bb⟩
    have HP1 := hide (HPV.out.later bb)
    have HV1 := hide (below_box bb HV.out)
    have HB1 := hide (below_next HBV.out bb (Nat.le_of_lt (box_lt HV.out)))
    clear bb u0 u1
    have u0 := cellB HV1.out (i := 0) rfl
    have u1 := cellB HV1.out (i := 1) rfl
    go_wp2_with fail
    refine (enter_any HP1.out HE.out.1).mono ?_
    rintro _ w2 ⟨rfl, hp⟩
    have HU := hide hp
    clear hp u0 u1
    go_wp2
    go_ret
    exact ⟨rfl, Put.first (by rw [HZbB.out]; exact HB1.out) HU.out⟩
  ·
    have HQ : Hid ((if posI e ∧ posI i then entC k.sk e else 1) = 1 ∧ (if posI e ∧ posI i then raisC k.sk e else k.sk) = k.sk) := hide ⟨if_neg he, if_neg he⟩
    rw [HQ.out.1, HQ.out.2]
    have HP := hide h
    have HE := hide he
    clear h he
    obtain ⟨V, hV⟩ : ∃ V, V = W.alloc (.cells #[.int .i64 e, .int .i64 i] 55 (0, 0)) := ⟨_, rfl⟩
    have HV : Hid (V.heap[W.heap.size]? = some (.cells #[.int .i64 e, .int .i64 i] 55 (0, 0))) := hide (by rw [hV]; exact heap_alloc_new W _)
    have HBV : Hid (Below W.heap.size W V) := hide (by rw [hV]; exact alloc_below _ _)
    obtain ⟨bB, hbB⟩ : ∃ bB, W.heap.size = bB := ⟨_, rfl⟩
    rw [hbB] at HV HBV
    have HZbB := hide hbB
    have HPV : Hid (PS B V k) := hide (HP.out.later (by rw [hV]; exact alloc_below _ _))
    go_enter Try.func53, Try.ntmps53
    go_upto_region 1 with fail
    rw [← hV]
    try rw [hbB]
    clear hV hbB
    have u0 := cellB HV.out (i := 0) rfl
    have u1 := cellB HV.out (i := 1) rfl
    go_wp2_with fail
    refine (made_yes HPV.out).mono ?_
    rintro _ _ ⟨rfl, rfl⟩
    go_wp2_with fail
    refine (isName_any (decide_eq_false HE.out)).mono ?_
    rintro _ w1 ⟨rfl, bb⟩
    have HP1 := hide (HPV.out.later bb)
    have HV1 := hide (below_box bb HV.out)
    have HB1 := hide (below_next HBV.out bb (Nat.le_of_lt (box_lt HV.out)))
    clear bb u0 u1
    have u0 := cellB HV1.out (i := 0) rfl
    have u1 := cellB HV1.out (i := 1) rfl
    go_wp2
    go_ret
    exact ⟨rfl, Put.same HP.out (by rw [HZbB.out]; exact HB1.out)⟩
end Go.Proofs.Ytboofnkajjnmeaa
