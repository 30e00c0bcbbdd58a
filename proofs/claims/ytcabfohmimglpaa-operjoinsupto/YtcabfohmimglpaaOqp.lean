/-
  open of a ledger of what is kept by rising keys. The conditions: lengths.
-/
import Derived.Test.YtcabfohmimglpaaOkq
import Derived.Test.YtcabfohmimglpaaOop
import Derived.Test.YtcabfohmimglpaaOst
import Derived.Test.YtcabfohmimglpaaOdo
import Derived.Test.YtcabfohmimglpaaOsp
namespace Go.Proofs.Ytcabfohmimglpaa
open Go.RowKit

theorem made_bools (n : Nat) : (madeCells (Value.bool false).cells (n * 1)).toList = (List.replicate n false).map Value.bool ∧ (madeCells (Value.bool false).cells (n * 1)).size = n := by
  refine ⟨?_, by simp [size_madeCells]⟩
  rw [Nat.mul_one, List.map_replicate]
  apply List.ext_getElem
  · simp [size_madeCells]
  · intro i h2 h3
    simp [madeCells, Value.cells, Nat.mod_one]
theorem made_ints0 (n : Nat) : (madeCells (Value.int .i64 0).cells (n * 1)).toList = (List.replicate n (0 : Int)).map (Value.int .i64) ∧ (madeCells (Value.int .i64 0).cells (n * 1)).size = n := by
  refine ⟨?_, by simp [size_madeCells]⟩
  rw [Nat.mul_one, List.map_replicate]
  apply List.ext_getElem
  · simp [size_madeCells]
  · intro i h2 h3
    simp [madeCells, Value.cells, Nat.mod_one]
theorem make_bools {n : Nat} (hn : n ≤ 1048576) : ∃ ba : Array Value, ba.toList = (List.replicate n false).map Value.bool ∧ ba.size = n ∧ ∀ w, (Instr.makeSlice 61 (.int .i64 (n : Int)) (.int .i64 (n : Int))).run Try.prog w = .ok (.slice (some ⟨w.heap.size, 0, none⟩) n n) (w.alloc (.cells ba 4 (0, 0))) := by
  obtain ⟨i0, hI0, hz0, hz1, hz2⟩ := info_parts Try.infoBool
  refine ⟨_, (made_bools n).1, (made_bools n).2, fun w => ?_⟩
  have h := run_make (P := Try.prog) w 61 4 i0 (.bool false) Try.underlying61 hI0 hz0 .i64 .i64 (n : Int) (n : Int) (by omega) (by omega) (by rw [hz2]; omega) (by omega)
  rw [hz1, Int.toNat_natCast] at h
  exact h
theorem make_ints {n : Nat} (hn : n ≤ 1048576) : ∃ ia : Array Value, ia.toList = (List.replicate n (0 : Int)).map (Value.int .i64) ∧ ia.size = n ∧ ∀ w, (Instr.makeSlice 62 (.int .i64 (n : Int)) (.int .i64 (n : Int))).run Try.prog w = .ok (.slice (some ⟨w.heap.size, 0, none⟩) n n) (w.alloc (.cells ia 3 (0, 0))) := by
  obtain ⟨i0, hI0, hz0, hz1, hz2⟩ := info_parts Try.infoIntO
  refine ⟨_, (made_ints0 n).1, (made_ints0 n).2, fun w => ?_⟩
  have h := run_make (P := Try.prog) w 62 3 i0 (.int .i64 0) Try.underlying62 hI0 hz0 .i64 .i64 (n : Int) (n : Int) (by omega) (by omega) (by rw [hz2]; omega) (by omega)
  rw [hz1, Int.toNat_natCast] at h
  exact h
theorem made_ownN {W X : World} {e : TypeId} {s n : Nat} {ba : Array Value} (h : Below W.heap.size W X) (hs : X.heap.size = s) (hb : ba.size = n) (hn : n ≤ 1048576) : (X.alloc (.cells ba e (0, 0))).ownsRow W.heap.size e 1 (.slice (some ⟨s, 0, none⟩) n n) n ba.toList ∧ Below X.heap.size X (X.alloc (.cells ba e (0, 0))) := by
  rw [← hs]
  exact ⟨⟨by simp [hb], .inr ⟨X.heap.size, n, ba, rfl, h.size, heap_alloc_new X _, Nat.le_refl _, by unfold maxLen; omega, by simp [hb], by rw [Nat.mul_one, List.take_of_length_le (by simp [hb])]⟩⟩, alloc_below _ _⟩

structure OpenK (W wd : World) (lb : Nat) (pk : Option Addr) (ck n gb gi gl cl H K ge m : Nat) (es : List EN) (ks : List KS) (keys : List Int) : Prop where
  box : wd.heap[lb]? = some (.cells #[.slice pk n ck, .slice (some ⟨gb, 0, none⟩) n n, .slice (some ⟨gi, 0, none⟩) n n, .slice (some ⟨gl, 0, none⟩) (2 * H) cl, .slice (some ⟨ge, 0, none⟩) m m, .slice none 0 0] 69 (0, 0))
  old : wd.ownsRow W.heap.size 43 3 (.slice pk n ck) n (ks.flatMap KS.cells)
  gone : wd.ownsRow W.heap.size 4 1 (.slice (some ⟨gb, 0, none⟩) n n) n ((List.replicate n false).map Value.bool)
  tw : wd.ownsRow W.heap.size 3 1 (.slice (some ⟨gi, 0, none⟩) n n) n ((List.replicate n (0 : Int)).map (Value.int .i64))
  left : wd.ownsRow W.heap.size 2 1 (.slice (some ⟨gl, 0, none⟩) (2 * H) cl) (2 * H) ((List.replicate (2 * H) lowN).map (Value.int .i64))
  ent : wd.ownsRow W.heap.size 74 5 (.slice (some ⟨ge, 0, none⟩) m m) m (es.flatMap EN.cells)
  pow : H = 2 ^ K
  big : n ≤ H
  few : H ≤ 2097152
  ents : es = keys.map (fun k => (⟨(n : Int), k, 0, 0, 0⟩ : EN))
  len : es.length = m
  lbW : W.heap.size ≤ lb
  below : Below W.heap.size W wd
theorem openK_meet {W X : World} {pk : Option Addr} {ck n gb gi gl cl H K ge m : Nat} {es : List EN} {ks : List KS} {keys : List Int} {s : Nat} (hb : Below W.heap.size W X) (hs : X.heap.size = s) (h0 : X.ownsRow W.heap.size 43 3 (.slice pk n ck) n (ks.flatMap KS.cells)) (h1 : X.ownsRow W.heap.size 4 1 (.slice (some ⟨gb, 0, none⟩) n n) n ((List.replicate n false).map Value.bool)) (h2 : X.ownsRow W.heap.size 3 1 (.slice (some ⟨gi, 0, none⟩) n n) n ((List.replicate n (0 : Int)).map (Value.int .i64))) (h3 : X.ownsRow W.heap.size 2 1 (.slice (some ⟨gl, 0, none⟩) (2 * H) cl) (2 * H) ((List.replicate (2 * H) lowN).map (Value.int .i64))) (h4 : X.ownsRow W.heap.size 74 5 (.slice (some ⟨ge, 0, none⟩) m m) m (es.flatMap EN.cells)) (h5 : H = 2 ^ K) (hg : n ≤ H) (h6 : H ≤ 2097152) (h7 : es = keys.map (fun k => (⟨(n : Int), k, 0, 0, 0⟩ : EN))) (h8 : es.length = m) :
    OpenK W (X.alloc (.cells #[.slice pk n ck, .slice (some ⟨gb, 0, none⟩) n n, .slice (some ⟨gi, 0, none⟩) n n, .slice (some ⟨gl, 0, none⟩) (2 * H) cl, .slice (some ⟨ge, 0, none⟩) m m, .slice none 0 0] 69 (0, 0))) s pk ck n gb gi gl cl H K ge m es ks keys := by
  rw [← hs]
  have ab := alloc_below X (.cells #[.slice pk n ck, .slice (some ⟨gb, 0, none⟩) n n, .slice (some ⟨gi, 0, none⟩) n n, .slice (some ⟨gl, 0, none⟩) (2 * H) cl, .slice (some ⟨ge, 0, none⟩) m m, .slice none 0 0] 69 (0, 0))
  exact ⟨heap_alloc_new X _, ownsRow_later h0 ab, ownsRow_later h1 ab, ownsRow_later h2 ab, ownsRow_later h3 ab, ownsRow_later h4 ab, h5, hg, h6, h7, h8, hb.size, hb.trans (ab.mono hb.size)⟩
theorem openK_end {W w2 w3 : World} {lb : Nat} {pk : Option Addr} {ck n gb gi gl cl H K ge m gf cf H2 K2 : Nat} {es : List EN} {ks : List KS} {keys : List Int} (hn : ks.length = n) (h : OpenK W w2 lb pk ck n gb gi gl cl H K ge m es ks keys) (B3 : Below w2.heap.size w2 w3) (Q1 : H2 = 2 ^ K2) (OF : w3.ownsRow w2.heap.size 2 1 (.slice (some ⟨gf, 0, none⟩) (2 * H2) cf) (2 * H2) ((List.replicate (2 * H2) lowN).map (Value.int .i64))) :
    LRep (w3.setCell ⟨lb, 5, none⟩ (.slice (some ⟨gf, 0, none⟩) (2 * H2) cf)) W.heap.size lb ⟨pk, ck, some ⟨gb, 0, none⟩, n, some ⟨gi, 0, none⟩, n, gl, cl, some ⟨ge, 0, none⟩, m, gf, cf⟩ ⟨ks, List.replicate n false, List.replicate n 0, List.replicate (2 * H) lowN, H, K, es, List.replicate (2 * H2) lowN, H2, K2⟩ ∧ Below W.heap.size W (w3.setCell ⟨lb, 5, none⟩ (.slice (some ⟨gf, 0, none⟩) (2 * H2) cf)) := by
  have hbx := below_box B3 h.box
  have hl := h.len
  subst hl
  subst hn
  refine ⟨⟨?_, lb_keeps hbx (ownsRow_later h.old B3) (by decide), lb_keeps hbx (ownsRow_later h.gone B3) (by decide), lb_keeps hbx (ownsRow_later h.tw B3) (by decide), lb_keeps hbx (ownsRow_later h.left B3) (by decide), lb_keeps hbx (ownsRow_later h.ent B3) (by decide), lb_keeps hbx (ownsRow_base OF h.below.size) (by decide), ?_, Peak.low H K h.pow, Peak.low H2 K2 Q1⟩, ?_⟩
  · rw [heap_set_sameO hbx]
    rfl
  · have h1 := (own_block_lt h.left (b := gl) rfl).1
    have h2 := (OF.lt gf rfl).1
    show gl ≠ gf
    omega
  · exact (h.below.trans (B3.mono h.below.size)).setCell (p := ⟨lb, 5, none⟩) h.lbW _
theorem low_get {H x : Nat} (h : x < H) : (List.replicate (2 * H) lowN).getD (H + x) 0 = lowN := by
  rw [List.getD_eq_getElem?_getD, List.getElem?_replicate, if_pos (by omega)]
  rfl
theorem openK_start {W w2 : World} {lb : Nat} {pk : Option Addr} {ck n gb gi gl cl H K ge m H2 K2 : Nat} {es : List EN} {ks : List KS} {keys : List Int} (hn : ks.length = n) (h : OpenK W w2 lb pk ck n gb gi gl cl H K ge m es ks keys) (hm : m ≤ H2) : OpI ks keys n ⟨ks, List.replicate n false, List.replicate n 0, List.replicate (2 * H) lowN, H, K, es, List.replicate (2 * H2) lowN, H2, K2⟩ := by
  subst hn
  have hes := h.ents
  refine ⟨rfl, rfl, ?_, fun k hk => ?_, by simp, fun x h1 h2 => by omega, fun x hx => ?_, fun k hk => low_get hk, h.big, by rw [h.len]; exact hm⟩
  · simp only
    rw [hes, List.map_map]
    exact List.map_id'' (fun _ => rfl) _
  · simp only at hk ⊢
    have hk2 : k < keys.length := by rw [hes, List.length_map] at hk; exact hk
    have he : es[k]! = ⟨(ks.length : Int), keys[k], 0, 0, 0⟩ := by
      rw [getElem!_pos es k hk]
      simp only [hes, List.getElem_map]
    rw [he]
    exact ⟨rfl, rfl, .inr ⟨rfl, fun x h1 h2 => by omega⟩⟩
  · simp only at hx ⊢
    rw [low_get hx, if_neg (by omega)]
theorem LRep.newTw {W W' : World} {base lb g : Nat} {A : LA} {L : LG} {ts : List Int} (h : LRep W base lb A L) (hg : A.pt = some ⟨g, 0, none⟩) (ho : Only (· = g) W W') (hr : W'.ownsRow base 3 1 (.slice A.pt L.old.length A.ct) L.old.length (ts.map (Value.int .i64))) : LRep W' base lb A { L with tw := ts } := by
  have ht := h.tw
  rw [hg] at ht
  exact ⟨box_keeps h.box ht (by decide) ho, row_keeps h.old ht (by decide) ho, row_keeps h.gone ht (by decide) ho, hr, row_keeps h.left ht (by decide) ho, row_keeps h.es ht (by decide) ho, row_keeps h.fr ht (by decide) ho, h.apart, h.pl, h.pf⟩

set_option maxRecDepth 100000 in
set_option maxHeartbeats 16000000 in
theorem open_kept {W : World} {p kp : Option Addr} {c kc n N : Nat} {rs : List RC} {ks : List KS} (h : RRow W p c rs) (hN : rs.length = N) (hb : N ≤ 1048576) (hk : KRow W kp kc ks) (hn : ks.length = n) (hnb : n ≤ 1048576) (hrise : (ks.map KS.key).Pairwise (· < ·)) :
    Calls Try.prog 11 #[.slice kp n kc, .slice p N c] W fun e w' => ∃ lb A L, e = .returned (.pointer (some ⟨lb, 0, none⟩)) ∧ LRep w' W.heap.size lb A L ∧ OpI ks (keysC (rs.map RC.key)) 0 L ∧ L.lh ≤ 2097152 ∧ L.fh ≤ 2097152 ∧ (∃ ge, A.pe = some ⟨ge, 0, none⟩) ∧ Below W.heap.size W w' := by
  have HE : Hid (∀ X, Below W.heap.size W X → Calls Try.prog 24 #[.slice p N c, .int .i64 (n : Int)] X fun e w' => ∃ g m es, e = .returned (.slice (some ⟨g, 0, none⟩) m m) ∧ es = (keysC (rs.map RC.key)).map (fun k => (⟨(n : Int), k, 0, 0, 0⟩ : EN)) ∧ es.length = m ∧ w'.ownsRow X.heap.size 74 5 (.slice (some ⟨g, 0, none⟩) m m) m (es.flatMap EN.cells) ∧ Below X.heap.size X w') := hide (fun X hX => entriesOf_any (h.below hX) hN hb)
  have HC : Hid (∀ X, Below W.heap.size W X → Calls Try.prog 22 #[.slice kp n kc] X fun e w' => ∃ p' c', e = .returned (.slice p' n c') ∧ w'.ownsRow X.heap.size 43 3 (.slice p' n c') n (ks.flatMap KS.cells) ∧ Below X.heap.size X w') := hide (fun X hX => ksClone (KRow.later hk hX) hn (by omega))
  have HP0 : Hid (∀ X : World, Calls Try.prog 23 #[.int .i64 (n : Int)] X fun e w' => ∃ g c H K, e = .returned (.slice (some ⟨g, 0, none⟩) (2 * H) c) ∧ H = 2 ^ K ∧ n ≤ H ∧ H ≤ 2097152 ∧ w'.ownsRow X.heap.size 2 1 (.slice (some ⟨g, 0, none⟩) (2 * H) c) (2 * H) ((List.replicate (2 * H) lowN).map (Value.int .i64)) ∧ Below X.heap.size X w') := hide (fun X => newPeaks_any (m := n) hnb)
  have HNN : Hid (rs.length ≤ 1048576) := hide (by omega)
  have HKR := hide hk
  have HN := hide hn
  have HRI := hide hrise
  obtain ⟨ba, hba, hbs, mb⟩ := make_bools (n := n) hnb
  obtain ⟨ia, hia, his, mi⟩ := make_ints (n := n) hnb
  have HBA := hide hba
  have HBSZ := hide hbs
  have HIA := hide hia
  have HISZ := hide his
  have k1 := hk.1
  have k2 := hk.2.1
  rw [hn] at k1
  clear h hN hb hk hn hrise hba hbs hia his
  go_enter Try.func11, Try.ntmps11
  go_upto_region 1 with fail
  go_cut [5] from 9 to 25 (fun s5 wd => ∃ (lb : Nat) (pk : Option Addr) (ck gb gi gl cl H K ge m : Nat) (es : List EN), s5 = .pointer (some ⟨lb, 0, none⟩) ∧ Hid (OpenK W wd lb pk ck n gb gi gl cl H K ge m es ks (keysC (rs.map RC.key))))
  case first =>
    refine wp_region_held_drew (S := fun _ => True) (by kernel_rfl) trivial (fun hHeld => ?_)
    refine wpAnyH_take (i := 0) (oi := _) (v := ?_) rfl (by kernel_rfl) (by kernel_rfl) (by kernel_rfl) (fun _ _ _ h => h) (Or.inl ⟨by rfl, ?_⟩) (by assumption) ?_
    rotate_left
    · intro w hSw
      (try dsimp only at hSw)
      go_simp
      all_goals with_reducible rfl
    simp only [Act.put, List.setIfInBounds_toArray] --TAKE 1
    refine wpAnyH_take (i := 2) (oi := _) (v := ?_) rfl (by kernel_rfl) (by kernel_rfl) (by kernel_rfl) (fun _ _ _ h => h) (Or.inl ⟨by rfl, ?_⟩) (by assumption) ?_
    rotate_left
    · intro w hSw
      (try dsimp only at hSw)
      go_simp
      all_goals with_reducible rfl
    simp only [Act.put] --TAKE 2
    refine wpAnyH_take (i := 3) (oi := _) (v := ?_) rfl (by kernel_rfl) (by kernel_rfl) (by kernel_rfl) (fun _ _ _ h => h) (Or.inl ⟨by rfl, ?_⟩) (by assumption) ?_
    rotate_left
    · intro w hSw
      (try dsimp only at hSw)
      go_simp
      all_goals with_reducible rfl
    simp only [Act.put] --TAKE 3
    refine wpAnyH_take (i := 5) (oi := _) (v := ?_) rfl (by kernel_rfl) (by kernel_rfl) (by kernel_rfl) (fun _ _ _ h => h) (Or.inl ⟨by rfl, ?_⟩) (by assumption) ?_
    rotate_left
    · intro w hSw
      (try dsimp only at hSw)
      go_simp
      all_goals with_reducible rfl
    simp only [Act.put] --TAKE 4
    refine wpAnyH_take (i := 6) (oi := _) (v := ?_) rfl (by kernel_rfl) (by kernel_rfl) (by kernel_rfl) (fun _ _ _ h => h) (Or.inl ⟨by rfl, ?_⟩) (by assumption) ?_
    rotate_left
    · intro w hSw
      (try dsimp only at hSw)
      go_simp
      all_goals with_reducible rfl
    simp only [Act.put] --TAKE 5
    refine wpAnyH_take (i := 8) (oi := _) (v := ?_) rfl (by kernel_rfl) (by kernel_rfl) (by kernel_rfl) (fun _ _ _ h => h) (Or.inl ⟨by rfl, ?_⟩) (by assumption) ?_
    rotate_left
    · intro w hSw
      (try dsimp only at hSw)
      go_simp
      all_goals with_reducible rfl
    simp only [Act.put] --TAKE 6
    refine wpAnyH_take (i := 9) (oi := _) (v := ?_) rfl (by kernel_rfl) (by kernel_rfl) (by kernel_rfl) (fun _ _ _ h => h) (Or.inl ⟨by rfl, ?_⟩) (by assumption) ?_
    rotate_left
    · intro w hSw
      (try dsimp only at hSw)
      go_simp
      all_goals with_reducible rfl
    simp only [Act.put] --TAKE 7
    refine wpAnyH_take (i := 11) (oi := _) (v := ?_) rfl (by kernel_rfl) (by kernel_rfl) (by kernel_rfl) (fun _ _ _ h => h) (Or.inl ⟨by rfl, ?_⟩) (by assumption) ?_
    rotate_left
    · intro w hSw
      (try dsimp only at hSw)
      go_simp
      all_goals with_reducible rfl
    simp only [Act.put] --TAKE 8
    refine wpAnyH_take (i := 12) (oi := _) (v := ?_) rfl (by kernel_rfl) (by kernel_rfl) (by kernel_rfl) (fun _ _ _ h => h) (Or.inl ⟨by rfl, ?_⟩) (by assumption) ?_
    rotate_left
    · intro w hSw
      (try dsimp only at hSw)
      go_simp
      all_goals with_reducible rfl
    simp only [Act.put] --TAKE 9
    refine wpAnyH_take (i := 13) (oi := _) (v := ?_) rfl (by kernel_rfl) (by kernel_rfl) (by kernel_rfl) (fun _ _ _ h => h) (Or.inl ⟨by rfl, ?_⟩) (by assumption) ?_
    rotate_left
    · intro w hSw
      (try dsimp only at hSw)
      go_simp
      all_goals with_reducible rfl
    simp only [Act.put] --TAKE 10
    have BW : Below W.heap.size W W.drew := (Below.refl _ W).drew
    refine wpAnyH_ready (rs := [1, 4, 7]) (by kernel_rfl) (by simp) ?_
    refine AllReadyH.cons (o := _) rfl (fun K hK => ?_) ?_
    · go_simp
      refine (HC.out _ BW).mono ?_
      rintro _ wc ⟨pk, ck, rfl, OC, B9⟩
      replace OC := ownsRow_base OC BW.size
      replace BW := BW.trans (B9.mono BW.size)
      clear B9
      go_wp2_with fail
      refine hK.out _ _ trivial (fun hHeld => ?_)
      clear hK
      refine wpAnyH_ready (rs := [4, 7, 10]) (by kernel_rfl) (by simp) ?_
      refine AllReadyH.cons (o := _) rfl (fun K hK => ?_) ?_
      · go_simp
        have N9 := made_ownN (e := 4) (s := wc.heap.size) BW (by first | rfl | simp) HBSZ.out hnb
        have B9 := N9.2
        replace OC := ownsRow_later OC B9
        have OB := N9.1
        replace BW := BW.trans (B9.mono BW.size)
        clear B9 N9
        refine hK.out _ _ trivial (fun hHeld => ?_)
        clear hK
        refine wpAnyH_ready (rs := [7, 10]) (by kernel_rfl) (by simp) ?_
        refine AllReadyH.cons (o := _) rfl (fun K hK => ?_) ?_
        · go_simp
          have N9 := made_ownN (e := 3) (s := wc.heap.size + 1) BW (by first | rfl | simp) HISZ.out hnb
          have B9 := N9.2
          replace OC := ownsRow_later OC B9
          replace OB := ownsRow_later OB B9
          have OI := N9.1
          replace BW := BW.trans (B9.mono BW.size)
          clear B9 N9
          refine hK.out _ _ trivial (fun hHeld => ?_)
          clear hK
          refine wpAnyH_ready (rs := [10]) (by kernel_rfl) (by simp) ?_
          refine AllReadyH.cons (o := _) rfl (fun K hK => ?_) AllReadyH.nil
          go_simp
          refine (HP0.out _).mono ?_
          rintro _ wp ⟨gl, cl, H, KK, rfl, P1, P2, P3, OL, B9⟩
          replace OL := ownsRow_base OL BW.size
          replace P1 := hide P1
          replace P2 := hide P2
          replace OC := ownsRow_later OC B9
          replace OB := ownsRow_later OB B9
          replace OI := ownsRow_later OI B9
          replace BW := BW.trans (B9.mono BW.size)
          clear B9
          go_wp2_with fail
          refine hK.out _ _ trivial (fun hHeld => ?_)
          clear hK
          refine wpAnyH_ready (rs := [14]) (by kernel_rfl) (by simp) ?_
          refine AllReadyH.cons (o := _) rfl (fun K hK => ?_) AllReadyH.nil
          go_simp
          refine (HE.out _ BW).mono ?_
          rintro _ we ⟨ge, m, es, rfl, E1, E2, OE, B9⟩
          replace OE := ownsRow_base OE BW.size
          replace E1 := hide E1
          replace E2 := hide E2
          replace OC := ownsRow_later OC B9
          replace OB := ownsRow_later OB B9
          replace OI := ownsRow_later OI B9
          replace OL := ownsRow_later OL B9
          replace BW := BW.trans (B9.mono BW.size)
          clear B9
          go_wp2_with fail
          refine hK.out _ _ trivial (fun hHeld => ?_)
          clear hK
          refine wpAnyH_take (i := 15) (oi := _) (v := ?_) rfl (by kernel_rfl) (by kernel_rfl) (by kernel_rfl) (fun _ _ _ h => h) (Or.inl ⟨by rfl, ?_⟩) (by assumption) ?_
          rotate_left
          · intro w hSw
            (try dsimp only at hSw)
            go_simp
            all_goals with_reducible rfl
          simp only [Act.put, List.setIfInBounds_toArray] --TAKE 11
          refine wpAnyH_ready (rs := [16]) (by kernel_rfl) (by simp) ?_
          refine AllReadyH.cons (o := _) rfl (fun K hK => ?_) AllReadyH.nil
          go_simp
          refine hK.out _ _ trivial (fun hHeld => ?_)
          clear hK
          refine wpAnyH_ready (rs := [17]) (by kernel_rfl) (by simp) ?_
          refine AllReadyH.cons (o := _) rfl (fun K hK => ?_) AllReadyH.nil
          go_simp
          refine hK.out _ _ trivial (fun hHeld => ?_)
          clear hK
          refine wpAnyH_done (by kernel_rfl) ?_ _
          have HM := hide (openK_meet (s := we.heap.size) BW (by first | rfl | simp) OC (by rw [← HBA.out]; exact OB) (by rw [← HIA.out]; exact OI) OL OE P1.out P2.out P3 E1.out E2.out)
          clear BW OC OB OI OL OE
          go_wp2_with fail
          go_meet
          case rel => exact ⟨_, _, _, _, _, _, _, _, _, _, _, _, rfl, HM⟩
        refine AllReadyH.cons (o := _) rfl (fun K hK => ?_) AllReadyH.nil
        go_simp
        refine (HP0.out _).mono ?_
        rintro _ wp ⟨gl, cl, H, KK, rfl, P1, P2, P3, OL, B9⟩
        replace OL := ownsRow_base OL BW.size
        replace P1 := hide P1
        replace P2 := hide P2
        replace OC := ownsRow_later OC B9
        replace OB := ownsRow_later OB B9
        replace BW := BW.trans (B9.mono BW.size)
        clear B9
        go_wp2_with fail
        refine hK.out _ _ trivial (fun hHeld => ?_)
        clear hK
        refine wpAnyH_ready (rs := [7, 14]) (by kernel_rfl) (by simp) ?_
        refine AllReadyH.cons (o := _) rfl (fun K hK => ?_) ?_
        · go_simp
          have N9 := made_ownN (e := 3) (s := wp.heap.size) BW (by first | rfl | simp) HISZ.out hnb
          have B9 := N9.2
          replace OC := ownsRow_later OC B9
          replace OB := ownsRow_later OB B9
          replace OL := ownsRow_later OL B9
          have OI := N9.1
          replace BW := BW.trans (B9.mono BW.size)
          clear B9 N9
          refine hK.out _ _ trivial (fun hHeld => ?_)
          clear hK
          refine wpAnyH_ready (rs := [14]) (by kernel_rfl) (by simp) ?_
          refine AllReadyH.cons (o := _) rfl (fun K hK => ?_) AllReadyH.nil
          go_simp
          refine (HE.out _ BW).mono ?_
          rintro _ we ⟨ge, m, es, rfl, E1, E2, OE, B9⟩
          replace OE := ownsRow_base OE BW.size
          replace E1 := hide E1
          replace E2 := hide E2
          replace OC := ownsRow_later OC B9
          replace OB := ownsRow_later OB B9
          replace OL := ownsRow_later OL B9
          replace OI := ownsRow_later OI B9
          replace BW := BW.trans (B9.mono BW.size)
          clear B9
          go_wp2_with fail
          refine hK.out _ _ trivial (fun hHeld => ?_)
          clear hK
          refine wpAnyH_take (i := 15) (oi := _) (v := ?_) rfl (by kernel_rfl) (by kernel_rfl) (by kernel_rfl) (fun _ _ _ h => h) (Or.inl ⟨by rfl, ?_⟩) (by assumption) ?_
          rotate_left
          · intro w hSw
            (try dsimp only at hSw)
            go_simp
            all_goals with_reducible rfl
          simp only [Act.put, List.setIfInBounds_toArray] --TAKE 12
          refine wpAnyH_ready (rs := [16]) (by kernel_rfl) (by simp) ?_
          refine AllReadyH.cons (o := _) rfl (fun K hK => ?_) AllReadyH.nil
          go_simp
          refine hK.out _ _ trivial (fun hHeld => ?_)
          clear hK
          refine wpAnyH_ready (rs := [17]) (by kernel_rfl) (by simp) ?_
          refine AllReadyH.cons (o := _) rfl (fun K hK => ?_) AllReadyH.nil
          go_simp
          refine hK.out _ _ trivial (fun hHeld => ?_)
          clear hK
          refine wpAnyH_done (by kernel_rfl) ?_ _
          have HM := hide (openK_meet (s := we.heap.size) BW (by first | rfl | simp) OC (by rw [← HBA.out]; exact OB) (by rw [← HIA.out]; exact OI) OL OE P1.out P2.out P3 E1.out E2.out)
          clear BW OC OB OI OL OE
          go_wp2_with fail
          go_meet
          case rel => exact ⟨_, _, _, _, _, _, _, _, _, _, _, _, rfl, HM⟩
        refine AllReadyH.cons (o := _) rfl (fun K hK => ?_) AllReadyH.nil
        go_simp
        refine (HE.out _ BW).mono ?_
        rintro _ we ⟨ge, m, es, rfl, E1, E2, OE, B9⟩
        replace OE := ownsRow_base OE BW.size
        replace E1 := hide E1
        replace E2 := hide E2
        replace OC := ownsRow_later OC B9
        replace OB := ownsRow_later OB B9
        replace OL := ownsRow_later OL B9
        replace BW := BW.trans (B9.mono BW.size)
        clear B9
        go_wp2_with fail
        refine hK.out _ _ trivial (fun hHeld => ?_)
        clear hK
        refine wpAnyH_ready (rs := [7]) (by kernel_rfl) (by simp) ?_
        refine AllReadyH.cons (o := _) rfl (fun K hK => ?_) AllReadyH.nil
        go_simp
        have N9 := made_ownN (e := 3) (s := we.heap.size) BW (by first | rfl | simp) HISZ.out hnb
        have B9 := N9.2
        replace OC := ownsRow_later OC B9
        replace OB := ownsRow_later OB B9
        replace OL := ownsRow_later OL B9
        replace OE := ownsRow_later OE B9
        have OI := N9.1
        replace BW := BW.trans (B9.mono BW.size)
        clear B9 N9
        refine hK.out _ _ trivial (fun hHeld => ?_)
        clear hK
        refine wpAnyH_take (i := 15) (oi := _) (v := ?_) rfl (by kernel_rfl) (by kernel_rfl) (by kernel_rfl) (fun _ _ _ h => h) (Or.inl ⟨by rfl, ?_⟩) (by assumption) ?_
        rotate_left
        · intro w hSw
          (try dsimp only at hSw)
          go_simp
          all_goals with_reducible rfl
        simp only [Act.put, List.setIfInBounds_toArray] --TAKE 13
        refine wpAnyH_ready (rs := [16]) (by kernel_rfl) (by simp) ?_
        refine AllReadyH.cons (o := _) rfl (fun K hK => ?_) AllReadyH.nil
        go_simp
        refine hK.out _ _ trivial (fun hHeld => ?_)
        clear hK
        refine wpAnyH_ready (rs := [17]) (by kernel_rfl) (by simp) ?_
        refine AllReadyH.cons (o := _) rfl (fun K hK => ?_) AllReadyH.nil
        go_simp
        refine hK.out _ _ trivial (fun hHeld => ?_)
        clear hK
        refine wpAnyH_done (by kernel_rfl) ?_ _
        have HM := hide (openK_meet (s := we.heap.size + 1) BW (by first | rfl | simp) OC (by rw [← HBA.out]; exact OB) (by rw [← HIA.out]; exact OI) OL OE P1.out P2.out P3 E1.out E2.out)
        clear BW OC OB OI OL OE
        go_wp2_with fail
        go_meet
        case rel => exact ⟨_, _, _, _, _, _, _, _, _, _, _, _, rfl, HM⟩
      refine AllReadyH.cons (o := _) rfl (fun K hK => ?_) ?_
      · go_simp
        have N9 := made_ownN (e := 3) (s := wc.heap.size) BW (by first | rfl | simp) HISZ.out hnb
        have B9 := N9.2
        replace OC := ownsRow_later OC B9
        have OI := N9.1
        replace BW := BW.trans (B9.mono BW.size)
        clear B9 N9
        refine hK.out _ _ trivial (fun hHeld => ?_)
        clear hK
        refine wpAnyH_ready (rs := [4, 10]) (by kernel_rfl) (by simp) ?_
        refine AllReadyH.cons (o := _) rfl (fun K hK => ?_) ?_
        · go_simp
          have N9 := made_ownN (e := 4) (s := wc.heap.size + 1) BW (by first | rfl | simp) HBSZ.out hnb
          have B9 := N9.2
          replace OC := ownsRow_later OC B9
          replace OI := ownsRow_later OI B9
          have OB := N9.1
          replace BW := BW.trans (B9.mono BW.size)
          clear B9 N9
          refine hK.out _ _ trivial (fun hHeld => ?_)
          clear hK
          refine wpAnyH_ready (rs := [10]) (by kernel_rfl) (by simp) ?_
          refine AllReadyH.cons (o := _) rfl (fun K hK => ?_) AllReadyH.nil
          go_simp
          refine (HP0.out _).mono ?_
          rintro _ wp ⟨gl, cl, H, KK, rfl, P1, P2, P3, OL, B9⟩
          replace OL := ownsRow_base OL BW.size
          replace P1 := hide P1
          replace P2 := hide P2
          replace OC := ownsRow_later OC B9
          replace OI := ownsRow_later OI B9
          replace OB := ownsRow_later OB B9
          replace BW := BW.trans (B9.mono BW.size)
          clear B9
          go_wp2_with fail
          refine hK.out _ _ trivial (fun hHeld => ?_)
          clear hK
          refine wpAnyH_ready (rs := [14]) (by kernel_rfl) (by simp) ?_
          refine AllReadyH.cons (o := _) rfl (fun K hK => ?_) AllReadyH.nil
          go_simp
          refine (HE.out _ BW).mono ?_
          rintro _ we ⟨ge, m, es, rfl, E1, E2, OE, B9⟩
          replace OE := ownsRow_base OE BW.size
          replace E1 := hide E1
          replace E2 := hide E2
          replace OC := ownsRow_later OC B9
          replace OI := ownsRow_later OI B9
          replace OB := ownsRow_later OB B9
          replace OL := ownsRow_later OL B9
          replace BW := BW.trans (B9.mono BW.size)
          clear B9
          go_wp2_with fail
          refine hK.out _ _ trivial (fun hHeld => ?_)
          clear hK
          refine wpAnyH_take (i := 15) (oi := _) (v := ?_) rfl (by kernel_rfl) (by kernel_rfl) (by kernel_rfl) (fun _ _ _ h => h) (Or.inl ⟨by rfl, ?_⟩) (by assumption) ?_
          rotate_left
          · intro w hSw
            (try dsimp only at hSw)
            go_simp
            all_goals with_reducible rfl
          simp only [Act.put, List.setIfInBounds_toArray] --TAKE 14
          refine wpAnyH_ready (rs := [16]) (by kernel_rfl) (by simp) ?_
          refine AllReadyH.cons (o := _) rfl (fun K hK => ?_) AllReadyH.nil
          go_simp
          refine hK.out _ _ trivial (fun hHeld => ?_)
          clear hK
          refine wpAnyH_ready (rs := [17]) (by kernel_rfl) (by simp) ?_
          refine AllReadyH.cons (o := _) rfl (fun K hK => ?_) AllReadyH.nil
          go_simp
          refine hK.out _ _ trivial (fun hHeld => ?_)
          clear hK
          refine wpAnyH_done (by kernel_rfl) ?_ _
          have HM := hide (openK_meet (s := we.heap.size) BW (by first | rfl | simp) OC (by rw [← HBA.out]; exact OB) (by rw [← HIA.out]; exact OI) OL OE P1.out P2.out P3 E1.out E2.out)
          clear BW OC OB OI OL OE
          go_wp2_with fail
          go_meet
          case rel => exact ⟨_, _, _, _, _, _, _, _, _, _, _, _, rfl, HM⟩
        refine AllReadyH.cons (o := _) rfl (fun K hK => ?_) AllReadyH.nil
        go_simp
        refine (HP0.out _).mono ?_
        rintro _ wp ⟨gl, cl, H, KK, rfl, P1, P2, P3, OL, B9⟩
        replace OL := ownsRow_base OL BW.size
        replace P1 := hide P1
        replace P2 := hide P2
        replace OC := ownsRow_later OC B9
        replace OI := ownsRow_later OI B9
        replace BW := BW.trans (B9.mono BW.size)
        clear B9
        go_wp2_with fail
        refine hK.out _ _ trivial (fun hHeld => ?_)
        clear hK
        refine wpAnyH_ready (rs := [4, 14]) (by kernel_rfl) (by simp) ?_
        refine AllReadyH.cons (o := _) rfl (fun K hK => ?_) ?_
        · go_simp
          have N9 := made_ownN (e := 4) (s := wp.heap.size) BW (by first | rfl | simp) HBSZ.out hnb
          have B9 := N9.2
          replace OC := ownsRow_later OC B9
          replace OI := ownsRow_later OI B9
          replace OL := ownsRow_later OL B9
          have OB := N9.1
          replace BW := BW.trans (B9.mono BW.size)
          clear B9 N9
          refine hK.out _ _ trivial (fun hHeld => ?_)
          clear hK
          refine wpAnyH_ready (rs := [14]) (by kernel_rfl) (by simp) ?_
          refine AllReadyH.cons (o := _) rfl (fun K hK => ?_) AllReadyH.nil
          go_simp
          refine (HE.out _ BW).mono ?_
          rintro _ we ⟨ge, m, es, rfl, E1, E2, OE, B9⟩
          replace OE := ownsRow_base OE BW.size
          replace E1 := hide E1
          replace E2 := hide E2
          replace OC := ownsRow_later OC B9
          replace OI := ownsRow_later OI B9
          replace OL := ownsRow_later OL B9
          replace OB := ownsRow_later OB B9
          replace BW := BW.trans (B9.mono BW.size)
          clear B9
          go_wp2_with fail
          refine hK.out _ _ trivial (fun hHeld => ?_)
          clear hK
          refine wpAnyH_take (i := 15) (oi := _) (v := ?_) rfl (by kernel_rfl) (by kernel_rfl) (by kernel_rfl) (fun _ _ _ h => h) (Or.inl ⟨by rfl, ?_⟩) (by assumption) ?_
          rotate_left
          · intro w hSw
            (try dsimp only at hSw)
            go_simp
            all_goals with_reducible rfl
          simp only [Act.put, List.setIfInBounds_toArray] --TAKE 15
          refine wpAnyH_ready (rs := [16]) (by kernel_rfl) (by simp) ?_
          refine AllReadyH.cons (o := _) rfl (fun K hK => ?_) AllReadyH.nil
          go_simp
          refine hK.out _ _ trivial (fun hHeld => ?_)
          clear hK
          refine wpAnyH_ready (rs := [17]) (by kernel_rfl) (by simp) ?_
          refine AllReadyH.cons (o := _) rfl (fun K hK => ?_) AllReadyH.nil
          go_simp
          refine hK.out _ _ trivial (fun hHeld => ?_)
          clear hK
          refine wpAnyH_done (by kernel_rfl) ?_ _
          have HM := hide (openK_meet (s := we.heap.size) BW (by first | rfl | simp) OC (by rw [← HBA.out]; exact OB) (by rw [← HIA.out]; exact OI) OL OE P1.out P2.out P3 E1.out E2.out)
          clear BW OC OB OI OL OE
          go_wp2_with fail
          go_meet
          case rel => exact ⟨_, _, _, _, _, _, _, _, _, _, _, _, rfl, HM⟩
        refine AllReadyH.cons (o := _) rfl (fun K hK => ?_) AllReadyH.nil
        go_simp
        refine (HE.out _ BW).mono ?_
        rintro _ we ⟨ge, m, es, rfl, E1, E2, OE, B9⟩
        replace OE := ownsRow_base OE BW.size
        replace E1 := hide E1
        replace E2 := hide E2
        replace OC := ownsRow_later OC B9
        replace OI := ownsRow_later OI B9
        replace OL := ownsRow_later OL B9
        replace BW := BW.trans (B9.mono BW.size)
        clear B9
        go_wp2_with fail
        refine hK.out _ _ trivial (fun hHeld => ?_)
        clear hK
        refine wpAnyH_ready (rs := [4]) (by kernel_rfl) (by simp) ?_
        refine AllReadyH.cons (o := _) rfl (fun K hK => ?_) AllReadyH.nil
        go_simp
        have N9 := made_ownN (e := 4) (s := we.heap.size) BW (by first | rfl | simp) HBSZ.out hnb
        have B9 := N9.2
        replace OC := ownsRow_later OC B9
        replace OI := ownsRow_later OI B9
        replace OL := ownsRow_later OL B9
        replace OE := ownsRow_later OE B9
        have OB := N9.1
        replace BW := BW.trans (B9.mono BW.size)
        clear B9 N9
        refine hK.out _ _ trivial (fun hHeld => ?_)
        clear hK
        refine wpAnyH_take (i := 15) (oi := _) (v := ?_) rfl (by kernel_rfl) (by kernel_rfl) (by kernel_rfl) (fun _ _ _ h => h) (Or.inl ⟨by rfl, ?_⟩) (by assumption) ?_
        rotate_left
        · intro w hSw
          (try dsimp only at hSw)
          go_simp
          all_goals with_reducible rfl
        simp only [Act.put, List.setIfInBounds_toArray] --TAKE 16
        refine wpAnyH_ready (rs := [16]) (by kernel_rfl) (by simp) ?_
        refine AllReadyH.cons (o := _) rfl (fun K hK => ?_) AllReadyH.nil
        go_simp
        refine hK.out _ _ trivial (fun hHeld => ?_)
        clear hK
        refine wpAnyH_ready (rs := [17]) (by kernel_rfl) (by simp) ?_
        refine AllReadyH.cons (o := _) rfl (fun K hK => ?_) AllReadyH.nil
        go_simp
        refine hK.out _ _ trivial (fun hHeld => ?_)
        clear hK
        refine wpAnyH_done (by kernel_rfl) ?_ _
        have HM := hide (openK_meet (s := we.heap.size + 1) BW (by first | rfl | simp) OC (by rw [← HBA.out]; exact OB) (by rw [← HIA.out]; exact OI) OL OE P1.out P2.out P3 E1.out E2.out)
        clear BW OC OB OI OL OE
        go_wp2_with fail
        go_meet
        case rel => exact ⟨_, _, _, _, _, _, _, _, _, _, _, _, rfl, HM⟩
      refine AllReadyH.cons (o := _) rfl (fun K hK => ?_) AllReadyH.nil
      go_simp
      refine (HP0.out _).mono ?_
      rintro _ wp ⟨gl, cl, H, KK, rfl, P1, P2, P3, OL, B9⟩
      replace OL := ownsRow_base OL BW.size
      replace P1 := hide P1
      replace P2 := hide P2
      replace OC := ownsRow_later OC B9
      replace BW := BW.trans (B9.mono BW.size)
      clear B9
      go_wp2_with fail
      refine hK.out _ _ trivial (fun hHeld => ?_)
      clear hK
      refine wpAnyH_ready (rs := [4, 7, 14]) (by kernel_rfl) (by simp) ?_
      refine AllReadyH.cons (o := _) rfl (fun K hK => ?_) ?_
      · go_simp
        have N9 := made_ownN (e := 4) (s := wp.heap.size) BW (by first | rfl | simp) HBSZ.out hnb
        have B9 := N9.2
        replace OC := ownsRow_later OC B9
        replace OL := ownsRow_later OL B9
        have OB := N9.1
        replace BW := BW.trans (B9.mono BW.size)
        clear B9 N9
        refine hK.out _ _ trivial (fun hHeld => ?_)
        clear hK
        refine wpAnyH_ready (rs := [7, 14]) (by kernel_rfl) (by simp) ?_
        refine AllReadyH.cons (o := _) rfl (fun K hK => ?_) ?_
        · go_simp
          have N9 := made_ownN (e := 3) (s := wp.heap.size + 1) BW (by first | rfl | simp) HISZ.out hnb
          have B9 := N9.2
          replace OC := ownsRow_later OC B9
          replace OL := ownsRow_later OL B9
          replace OB := ownsRow_later OB B9
          have OI := N9.1
          replace BW := BW.trans (B9.mono BW.size)
          clear B9 N9
          refine hK.out _ _ trivial (fun hHeld => ?_)
          clear hK
          refine wpAnyH_ready (rs := [14]) (by kernel_rfl) (by simp) ?_
          refine AllReadyH.cons (o := _) rfl (fun K hK => ?_) AllReadyH.nil
          go_simp
          refine (HE.out _ BW).mono ?_
          rintro _ we ⟨ge, m, es, rfl, E1, E2, OE, B9⟩
          replace OE := ownsRow_base OE BW.size
          replace E1 := hide E1
          replace E2 := hide E2
          replace OC := ownsRow_later OC B9
          replace OL := ownsRow_later OL B9
          replace OB := ownsRow_later OB B9
          replace OI := ownsRow_later OI B9
          replace BW := BW.trans (B9.mono BW.size)
          clear B9
          go_wp2_with fail
          refine hK.out _ _ trivial (fun hHeld => ?_)
          clear hK
          refine wpAnyH_take (i := 15) (oi := _) (v := ?_) rfl (by kernel_rfl) (by kernel_rfl) (by kernel_rfl) (fun _ _ _ h => h) (Or.inl ⟨by rfl, ?_⟩) (by assumption) ?_
          rotate_left
          · intro w hSw
            (try dsimp only at hSw)
            go_simp
            all_goals with_reducible rfl
          simp only [Act.put, List.setIfInBounds_toArray] --TAKE 17
          refine wpAnyH_ready (rs := [16]) (by kernel_rfl) (by simp) ?_
          refine AllReadyH.cons (o := _) rfl (fun K hK => ?_) AllReadyH.nil
          go_simp
          refine hK.out _ _ trivial (fun hHeld => ?_)
          clear hK
          refine wpAnyH_ready (rs := [17]) (by kernel_rfl) (by simp) ?_
          refine AllReadyH.cons (o := _) rfl (fun K hK => ?_) AllReadyH.nil
          go_simp
          refine hK.out _ _ trivial (fun hHeld => ?_)
          clear hK
          refine wpAnyH_done (by kernel_rfl) ?_ _
          have HM := hide (openK_meet (s := we.heap.size) BW (by first | rfl | simp) OC (by rw [← HBA.out]; exact OB) (by rw [← HIA.out]; exact OI) OL OE P1.out P2.out P3 E1.out E2.out)
          clear BW OC OB OI OL OE
          go_wp2_with fail
          go_meet
          case rel => exact ⟨_, _, _, _, _, _, _, _, _, _, _, _, rfl, HM⟩
        refine AllReadyH.cons (o := _) rfl (fun K hK => ?_) AllReadyH.nil
        go_simp
        refine (HE.out _ BW).mono ?_
        rintro _ we ⟨ge, m, es, rfl, E1, E2, OE, B9⟩
        replace OE := ownsRow_base OE BW.size
        replace E1 := hide E1
        replace E2 := hide E2
        replace OC := ownsRow_later OC B9
        replace OL := ownsRow_later OL B9
        replace OB := ownsRow_later OB B9
        replace BW := BW.trans (B9.mono BW.size)
        clear B9
        go_wp2_with fail
        refine hK.out _ _ trivial (fun hHeld => ?_)
        clear hK
        refine wpAnyH_ready (rs := [7]) (by kernel_rfl) (by simp) ?_
        refine AllReadyH.cons (o := _) rfl (fun K hK => ?_) AllReadyH.nil
        go_simp
        have N9 := made_ownN (e := 3) (s := we.heap.size) BW (by first | rfl | simp) HISZ.out hnb
        have B9 := N9.2
        replace OC := ownsRow_later OC B9
        replace OL := ownsRow_later OL B9
        replace OB := ownsRow_later OB B9
        replace OE := ownsRow_later OE B9
        have OI := N9.1
        replace BW := BW.trans (B9.mono BW.size)
        clear B9 N9
        refine hK.out _ _ trivial (fun hHeld => ?_)
        clear hK
        refine wpAnyH_take (i := 15) (oi := _) (v := ?_) rfl (by kernel_rfl) (by kernel_rfl) (by kernel_rfl) (fun _ _ _ h => h) (Or.inl ⟨by rfl, ?_⟩) (by assumption) ?_
        rotate_left
        · intro w hSw
          (try dsimp only at hSw)
          go_simp
          all_goals with_reducible rfl
        simp only [Act.put, List.setIfInBounds_toArray] --TAKE 18
        refine wpAnyH_ready (rs := [16]) (by kernel_rfl) (by simp) ?_
        refine AllReadyH.cons (o := _) rfl (fun K hK => ?_) AllReadyH.nil
        go_simp
        refine hK.out _ _ trivial (fun hHeld => ?_)
        clear hK
        refine wpAnyH_ready (rs := [17]) (by kernel_rfl) (by simp) ?_
        refine AllReadyH.cons (o := _) rfl (fun K hK => ?_) AllReadyH.nil
        go_simp
        refine hK.out _ _ trivial (fun hHeld => ?_)
        clear hK
        refine wpAnyH_done (by kernel_rfl) ?_ _
        have HM := hide (openK_meet (s := we.heap.size + 1) BW (by first | rfl | simp) OC (by rw [← HBA.out]; exact OB) (by rw [← HIA.out]; exact OI) OL OE P1.out P2.out P3 E1.out E2.out)
        clear BW OC OB OI OL OE
        go_wp2_with fail
        go_meet
        case rel => exact ⟨_, _, _, _, _, _, _, _, _, _, _, _, rfl, HM⟩
      refine AllReadyH.cons (o := _) rfl (fun K hK => ?_) ?_
      · go_simp
        have N9 := made_ownN (e := 3) (s := wp.heap.size) BW (by first | rfl | simp) HISZ.out hnb
        have B9 := N9.2
        replace OC := ownsRow_later OC B9
        replace OL := ownsRow_later OL B9
        have OI := N9.1
        replace BW := BW.trans (B9.mono BW.size)
        clear B9 N9
        refine hK.out _ _ trivial (fun hHeld => ?_)
        clear hK
        refine wpAnyH_ready (rs := [4, 14]) (by kernel_rfl) (by simp) ?_
        refine AllReadyH.cons (o := _) rfl (fun K hK => ?_) ?_
        · go_simp
          have N9 := made_ownN (e := 4) (s := wp.heap.size + 1) BW (by first | rfl | simp) HBSZ.out hnb
          have B9 := N9.2
          replace OC := ownsRow_later OC B9
          replace OL := ownsRow_later OL B9
          replace OI := ownsRow_later OI B9
          have OB := N9.1
          replace BW := BW.trans (B9.mono BW.size)
          clear B9 N9
          refine hK.out _ _ trivial (fun hHeld => ?_)
          clear hK
          refine wpAnyH_ready (rs := [14]) (by kernel_rfl) (by simp) ?_
          refine AllReadyH.cons (o := _) rfl (fun K hK => ?_) AllReadyH.nil
          go_simp
          refine (HE.out _ BW).mono ?_
          rintro _ we ⟨ge, m, es, rfl, E1, E2, OE, B9⟩
          replace OE := ownsRow_base OE BW.size
          replace E1 := hide E1
          replace E2 := hide E2
          replace OC := ownsRow_later OC B9
          replace OL := ownsRow_later OL B9
          replace OI := ownsRow_later OI B9
          replace OB := ownsRow_later OB B9
          replace BW := BW.trans (B9.mono BW.size)
          clear B9
          go_wp2_with fail
          refine hK.out _ _ trivial (fun hHeld => ?_)
          clear hK
          refine wpAnyH_take (i := 15) (oi := _) (v := ?_) rfl (by kernel_rfl) (by kernel_rfl) (by kernel_rfl) (fun _ _ _ h => h) (Or.inl ⟨by rfl, ?_⟩) (by assumption) ?_
          rotate_left
          · intro w hSw
            (try dsimp only at hSw)
            go_simp
            all_goals with_reducible rfl
          simp only [Act.put, List.setIfInBounds_toArray] --TAKE 19
          refine wpAnyH_ready (rs := [16]) (by kernel_rfl) (by simp) ?_
          refine AllReadyH.cons (o := _) rfl (fun K hK => ?_) AllReadyH.nil
          go_simp
          refine hK.out _ _ trivial (fun hHeld => ?_)
          clear hK
          refine wpAnyH_ready (rs := [17]) (by kernel_rfl) (by simp) ?_
          refine AllReadyH.cons (o := _) rfl (fun K hK => ?_) AllReadyH.nil
          go_simp
          refine hK.out _ _ trivial (fun hHeld => ?_)
          clear hK
          refine wpAnyH_done (by kernel_rfl) ?_ _
          have HM := hide (openK_meet (s := we.heap.size) BW (by first | rfl | simp) OC (by rw [← HBA.out]; exact OB) (by rw [← HIA.out]; exact OI) OL OE P1.out P2.out P3 E1.out E2.out)
          clear BW OC OB OI OL OE
          go_wp2_with fail
          go_meet
          case rel => exact ⟨_, _, _, _, _, _, _, _, _, _, _, _, rfl, HM⟩
        refine AllReadyH.cons (o := _) rfl (fun K hK => ?_) AllReadyH.nil
        go_simp
        refine (HE.out _ BW).mono ?_
        rintro _ we ⟨ge, m, es, rfl, E1, E2, OE, B9⟩
        replace OE := ownsRow_base OE BW.size
        replace E1 := hide E1
        replace E2 := hide E2
        replace OC := ownsRow_later OC B9
        replace OL := ownsRow_later OL B9
        replace OI := ownsRow_later OI B9
        replace BW := BW.trans (B9.mono BW.size)
        clear B9
        go_wp2_with fail
        refine hK.out _ _ trivial (fun hHeld => ?_)
        clear hK
        refine wpAnyH_ready (rs := [4]) (by kernel_rfl) (by simp) ?_
        refine AllReadyH.cons (o := _) rfl (fun K hK => ?_) AllReadyH.nil
        go_simp
        have N9 := made_ownN (e := 4) (s := we.heap.size) BW (by first | rfl | simp) HBSZ.out hnb
        have B9 := N9.2
        replace OC := ownsRow_later OC B9
        replace OL := ownsRow_later OL B9
        replace OI := ownsRow_later OI B9
        replace OE := ownsRow_later OE B9
        have OB := N9.1
        replace BW := BW.trans (B9.mono BW.size)
        clear B9 N9
        refine hK.out _ _ trivial (fun hHeld => ?_)
        clear hK
        refine wpAnyH_take (i := 15) (oi := _) (v := ?_) rfl (by kernel_rfl) (by kernel_rfl) (by kernel_rfl) (fun _ _ _ h => h) (Or.inl ⟨by rfl, ?_⟩) (by assumption) ?_
        rotate_left
        · intro w hSw
          (try dsimp only at hSw)
          go_simp
          all_goals with_reducible rfl
        simp only [Act.put, List.setIfInBounds_toArray] --TAKE 20
        refine wpAnyH_ready (rs := [16]) (by kernel_rfl) (by simp) ?_
        refine AllReadyH.cons (o := _) rfl (fun K hK => ?_) AllReadyH.nil
        go_simp
        refine hK.out _ _ trivial (fun hHeld => ?_)
        clear hK
        refine wpAnyH_ready (rs := [17]) (by kernel_rfl) (by simp) ?_
        refine AllReadyH.cons (o := _) rfl (fun K hK => ?_) AllReadyH.nil
        go_simp
        refine hK.out _ _ trivial (fun hHeld => ?_)
        clear hK
        refine wpAnyH_done (by kernel_rfl) ?_ _
        have HM := hide (openK_meet (s := we.heap.size + 1) BW (by first | rfl | simp) OC (by rw [← HBA.out]; exact OB) (by rw [← HIA.out]; exact OI) OL OE P1.out P2.out P3 E1.out E2.out)
        clear BW OC OB OI OL OE
        go_wp2_with fail
        go_meet
        case rel => exact ⟨_, _, _, _, _, _, _, _, _, _, _, _, rfl, HM⟩
      refine AllReadyH.cons (o := _) rfl (fun K hK => ?_) AllReadyH.nil
      go_simp
      refine (HE.out _ BW).mono ?_
      rintro _ we ⟨ge, m, es, rfl, E1, E2, OE, B9⟩
      replace OE := ownsRow_base OE BW.size
      replace E1 := hide E1
      replace E2 := hide E2
      replace OC := ownsRow_later OC B9
      replace OL := ownsRow_later OL B9
      replace BW := BW.trans (B9.mono BW.size)
      clear B9
      go_wp2_with fail
      refine hK.out _ _ trivial (fun hHeld => ?_)
      clear hK
      refine wpAnyH_ready (rs := [4, 7]) (by kernel_rfl) (by simp) ?_
      refine AllReadyH.cons (o := _) rfl (fun K hK => ?_) ?_
      · go_simp
        have N9 := made_ownN (e := 4) (s := we.heap.size) BW (by first | rfl | simp) HBSZ.out hnb
        have B9 := N9.2
        replace OC := ownsRow_later OC B9
        replace OL := ownsRow_later OL B9
        replace OE := ownsRow_later OE B9
        have OB := N9.1
        replace BW := BW.trans (B9.mono BW.size)
        clear B9 N9
        refine hK.out _ _ trivial (fun hHeld => ?_)
        clear hK
        refine wpAnyH_ready (rs := [7]) (by kernel_rfl) (by simp) ?_
        refine AllReadyH.cons (o := _) rfl (fun K hK => ?_) AllReadyH.nil
        go_simp
        have N9 := made_ownN (e := 3) (s := we.heap.size + 1) BW (by first | rfl | simp) HISZ.out hnb
        have B9 := N9.2
        replace OC := ownsRow_later OC B9
        replace OL := ownsRow_later OL B9
        replace OE := ownsRow_later OE B9
        replace OB := ownsRow_later OB B9
        have OI := N9.1
        replace BW := BW.trans (B9.mono BW.size)
        clear B9 N9
        refine hK.out _ _ trivial (fun hHeld => ?_)
        clear hK
        refine wpAnyH_take (i := 15) (oi := _) (v := ?_) rfl (by kernel_rfl) (by kernel_rfl) (by kernel_rfl) (fun _ _ _ h => h) (Or.inl ⟨by rfl, ?_⟩) (by assumption) ?_
        rotate_left
        · intro w hSw
          (try dsimp only at hSw)
          go_simp
          all_goals with_reducible rfl
        simp only [Act.put, List.setIfInBounds_toArray] --TAKE 21
        refine wpAnyH_ready (rs := [16]) (by kernel_rfl) (by simp) ?_
        refine AllReadyH.cons (o := _) rfl (fun K hK => ?_) AllReadyH.nil
        go_simp
        refine hK.out _ _ trivial (fun hHeld => ?_)
        clear hK
        refine wpAnyH_ready (rs := [17]) (by kernel_rfl) (by simp) ?_
        refine AllReadyH.cons (o := _) rfl (fun K hK => ?_) AllReadyH.nil
        go_simp
        refine hK.out _ _ trivial (fun hHeld => ?_)
        clear hK
        refine wpAnyH_done (by kernel_rfl) ?_ _
        have HM := hide (openK_meet (s := we.heap.size + 2) BW (by first | rfl | simp) OC (by rw [← HBA.out]; exact OB) (by rw [← HIA.out]; exact OI) OL OE P1.out P2.out P3 E1.out E2.out)
        clear BW OC OB OI OL OE
        go_wp2_with fail
        go_meet
        case rel => exact ⟨_, _, _, _, _, _, _, _, _, _, _, _, rfl, HM⟩
      refine AllReadyH.cons (o := _) rfl (fun K hK => ?_) AllReadyH.nil
      go_simp
      have N9 := made_ownN (e := 3) (s := we.heap.size) BW (by first | rfl | simp) HISZ.out hnb
      have B9 := N9.2
      replace OC := ownsRow_later OC B9
      replace OL := ownsRow_later OL B9
      replace OE := ownsRow_later OE B9
      have OI := N9.1
      replace BW := BW.trans (B9.mono BW.size)
      clear B9 N9
      refine hK.out _ _ trivial (fun hHeld => ?_)
      clear hK
      refine wpAnyH_ready (rs := [4]) (by kernel_rfl) (by simp) ?_
      refine AllReadyH.cons (o := _) rfl (fun K hK => ?_) AllReadyH.nil
      go_simp
      have N9 := made_ownN (e := 4) (s := we.heap.size + 1) BW (by first | rfl | simp) HBSZ.out hnb
      have B9 := N9.2
      replace OC := ownsRow_later OC B9
      replace OL := ownsRow_later OL B9
      replace OE := ownsRow_later OE B9
      replace OI := ownsRow_later OI B9
      have OB := N9.1
      replace BW := BW.trans (B9.mono BW.size)
      clear B9 N9
      refine hK.out _ _ trivial (fun hHeld => ?_)
      clear hK
      refine wpAnyH_take (i := 15) (oi := _) (v := ?_) rfl (by kernel_rfl) (by kernel_rfl) (by kernel_rfl) (fun _ _ _ h => h) (Or.inl ⟨by rfl, ?_⟩) (by assumption) ?_
      rotate_left
      · intro w hSw
        (try dsimp only at hSw)
        go_simp
        all_goals with_reducible rfl
      simp only [Act.put, List.setIfInBounds_toArray] --TAKE 22
      refine wpAnyH_ready (rs := [16]) (by kernel_rfl) (by simp) ?_
      refine AllReadyH.cons (o := _) rfl (fun K hK => ?_) AllReadyH.nil
      go_simp
      refine hK.out _ _ trivial (fun hHeld => ?_)
      clear hK
      refine wpAnyH_ready (rs := [17]) (by kernel_rfl) (by simp) ?_
      refine AllReadyH.cons (o := _) rfl (fun K hK => ?_) AllReadyH.nil
      go_simp
      refine hK.out _ _ trivial (fun hHeld => ?_)
      clear hK
      refine wpAnyH_done (by kernel_rfl) ?_ _
      have HM := hide (openK_meet (s := we.heap.size + 2) BW (by first | rfl | simp) OC (by rw [← HBA.out]; exact OB) (by rw [← HIA.out]; exact OI) OL OE P1.out P2.out P3 E1.out E2.out)
      clear BW OC OB OI OL OE
      go_wp2_with fail
      go_meet
      case rel => exact ⟨_, _, _, _, _, _, _, _, _, _, _, _, rfl, HM⟩
    refine AllReadyH.cons (o := _) rfl (fun K hK => ?_) ?_
    · go_simp
      have N9 := made_ownN (e := 4) (s := W.heap.size) BW (by first | rfl | simp) HBSZ.out hnb
      have B9 := N9.2
      have OB := N9.1
      replace BW := BW.trans (B9.mono BW.size)
      clear B9 N9
      refine hK.out _ _ trivial (fun hHeld => ?_)
      clear hK
      refine wpAnyH_ready (rs := [1, 7]) (by kernel_rfl) (by simp) ?_
      refine AllReadyH.cons (o := _) rfl (fun K hK => ?_) ?_
      · go_simp
        refine (HC.out _ BW).mono ?_
        rintro _ wc ⟨pk, ck, rfl, OC, B9⟩
        replace OC := ownsRow_base OC BW.size
        replace OB := ownsRow_later OB B9
        replace BW := BW.trans (B9.mono BW.size)
        clear B9
        go_wp2_with fail
        refine hK.out _ _ trivial (fun hHeld => ?_)
        clear hK
        refine wpAnyH_ready (rs := [7, 10]) (by kernel_rfl) (by simp) ?_
        refine AllReadyH.cons (o := _) rfl (fun K hK => ?_) ?_
        · go_simp
          have N9 := made_ownN (e := 3) (s := wc.heap.size) BW (by first | rfl | simp) HISZ.out hnb
          have B9 := N9.2
          replace OB := ownsRow_later OB B9
          replace OC := ownsRow_later OC B9
          have OI := N9.1
          replace BW := BW.trans (B9.mono BW.size)
          clear B9 N9
          refine hK.out _ _ trivial (fun hHeld => ?_)
          clear hK
          refine wpAnyH_ready (rs := [10]) (by kernel_rfl) (by simp) ?_
          refine AllReadyH.cons (o := _) rfl (fun K hK => ?_) AllReadyH.nil
          go_simp
          refine (HP0.out _).mono ?_
          rintro _ wp ⟨gl, cl, H, KK, rfl, P1, P2, P3, OL, B9⟩
          replace OL := ownsRow_base OL BW.size
          replace P1 := hide P1
          replace P2 := hide P2
          replace OB := ownsRow_later OB B9
          replace OC := ownsRow_later OC B9
          replace OI := ownsRow_later OI B9
          replace BW := BW.trans (B9.mono BW.size)
          clear B9
          go_wp2_with fail
          refine hK.out _ _ trivial (fun hHeld => ?_)
          clear hK
          refine wpAnyH_ready (rs := [14]) (by kernel_rfl) (by simp) ?_
          refine AllReadyH.cons (o := _) rfl (fun K hK => ?_) AllReadyH.nil
          go_simp
          refine (HE.out _ BW).mono ?_
          rintro _ we ⟨ge, m, es, rfl, E1, E2, OE, B9⟩
          replace OE := ownsRow_base OE BW.size
          replace E1 := hide E1
          replace E2 := hide E2
          replace OB := ownsRow_later OB B9
          replace OC := ownsRow_later OC B9
          replace OI := ownsRow_later OI B9
          replace OL := ownsRow_later OL B9
          replace BW := BW.trans (B9.mono BW.size)
          clear B9
          go_wp2_with fail
          refine hK.out _ _ trivial (fun hHeld => ?_)
          clear hK
          refine wpAnyH_take (i := 15) (oi := _) (v := ?_) rfl (by kernel_rfl) (by kernel_rfl) (by kernel_rfl) (fun _ _ _ h => h) (Or.inl ⟨by rfl, ?_⟩) (by assumption) ?_
          rotate_left
          · intro w hSw
            (try dsimp only at hSw)
            go_simp
            all_goals with_reducible rfl
          simp only [Act.put, List.setIfInBounds_toArray] --TAKE 23
          refine wpAnyH_ready (rs := [16]) (by kernel_rfl) (by simp) ?_
          refine AllReadyH.cons (o := _) rfl (fun K hK => ?_) AllReadyH.nil
          go_simp
          refine hK.out _ _ trivial (fun hHeld => ?_)
          clear hK
          refine wpAnyH_ready (rs := [17]) (by kernel_rfl) (by simp) ?_
          refine AllReadyH.cons (o := _) rfl (fun K hK => ?_) AllReadyH.nil
          go_simp
          refine hK.out _ _ trivial (fun hHeld => ?_)
          clear hK
          refine wpAnyH_done (by kernel_rfl) ?_ _
          have HM := hide (openK_meet (s := we.heap.size) BW (by first | rfl | simp) OC (by rw [← HBA.out]; exact OB) (by rw [← HIA.out]; exact OI) OL OE P1.out P2.out P3 E1.out E2.out)
          clear BW OC OB OI OL OE
          go_wp2_with fail
          go_meet
          case rel => exact ⟨_, _, _, _, _, _, _, _, _, _, _, _, rfl, HM⟩
        refine AllReadyH.cons (o := _) rfl (fun K hK => ?_) AllReadyH.nil
        go_simp
        refine (HP0.out _).mono ?_
        rintro _ wp ⟨gl, cl, H, KK, rfl, P1, P2, P3, OL, B9⟩
        replace OL := ownsRow_base OL BW.size
        replace P1 := hide P1
        replace P2 := hide P2
        replace OB := ownsRow_later OB B9
        replace OC := ownsRow_later OC B9
        replace BW := BW.trans (B9.mono BW.size)
        clear B9
        go_wp2_with fail
        refine hK.out _ _ trivial (fun hHeld => ?_)
        clear hK
        refine wpAnyH_ready (rs := [7, 14]) (by kernel_rfl) (by simp) ?_
        refine AllReadyH.cons (o := _) rfl (fun K hK => ?_) ?_
        · go_simp
          have N9 := made_ownN (e := 3) (s := wp.heap.size) BW (by first | rfl | simp) HISZ.out hnb
          have B9 := N9.2
          replace OB := ownsRow_later OB B9
          replace OC := ownsRow_later OC B9
          replace OL := ownsRow_later OL B9
          have OI := N9.1
          replace BW := BW.trans (B9.mono BW.size)
          clear B9 N9
          refine hK.out _ _ trivial (fun hHeld => ?_)
          clear hK
          refine wpAnyH_ready (rs := [14]) (by kernel_rfl) (by simp) ?_
          refine AllReadyH.cons (o := _) rfl (fun K hK => ?_) AllReadyH.nil
          go_simp
          refine (HE.out _ BW).mono ?_
          rintro _ we ⟨ge, m, es, rfl, E1, E2, OE, B9⟩
          replace OE := ownsRow_base OE BW.size
          replace E1 := hide E1
          replace E2 := hide E2
          replace OB := ownsRow_later OB B9
          replace OC := ownsRow_later OC B9
          replace OL := ownsRow_later OL B9
          replace OI := ownsRow_later OI B9
          replace BW := BW.trans (B9.mono BW.size)
          clear B9
          go_wp2_with fail
          refine hK.out _ _ trivial (fun hHeld => ?_)
          clear hK
          refine wpAnyH_take (i := 15) (oi := _) (v := ?_) rfl (by kernel_rfl) (by kernel_rfl) (by kernel_rfl) (fun _ _ _ h => h) (Or.inl ⟨by rfl, ?_⟩) (by assumption) ?_
          rotate_left
          · intro w hSw
            (try dsimp only at hSw)
            go_simp
            all_goals with_reducible rfl
          simp only [Act.put, List.setIfInBounds_toArray] --TAKE 24
          refine wpAnyH_ready (rs := [16]) (by kernel_rfl) (by simp) ?_
          refine AllReadyH.cons (o := _) rfl (fun K hK => ?_) AllReadyH.nil
          go_simp
          refine hK.out _ _ trivial (fun hHeld => ?_)
          clear hK
          refine wpAnyH_ready (rs := [17]) (by kernel_rfl) (by simp) ?_
          refine AllReadyH.cons (o := _) rfl (fun K hK => ?_) AllReadyH.nil
          go_simp
          refine hK.out _ _ trivial (fun hHeld => ?_)
          clear hK
          refine wpAnyH_done (by kernel_rfl) ?_ _
          have HM := hide (openK_meet (s := we.heap.size) BW (by first | rfl | simp) OC (by rw [← HBA.out]; exact OB) (by rw [← HIA.out]; exact OI) OL OE P1.out P2.out P3 E1.out E2.out)
          clear BW OC OB OI OL OE
          go_wp2_with fail
          go_meet
          case rel => exact ⟨_, _, _, _, _, _, _, _, _, _, _, _, rfl, HM⟩
        refine AllReadyH.cons (o := _) rfl (fun K hK => ?_) AllReadyH.nil
        go_simp
        refine (HE.out _ BW).mono ?_
        rintro _ we ⟨ge, m, es, rfl, E1, E2, OE, B9⟩
        replace OE := ownsRow_base OE BW.size
        replace E1 := hide E1
        replace E2 := hide E2
        replace OB := ownsRow_later OB B9
        replace OC := ownsRow_later OC B9
        replace OL := ownsRow_later OL B9
        replace BW := BW.trans (B9.mono BW.size)
        clear B9
        go_wp2_with fail
        refine hK.out _ _ trivial (fun hHeld => ?_)
        clear hK
        refine wpAnyH_ready (rs := [7]) (by kernel_rfl) (by simp) ?_
        refine AllReadyH.cons (o := _) rfl (fun K hK => ?_) AllReadyH.nil
        go_simp
        have N9 := made_ownN (e := 3) (s := we.heap.size) BW (by first | rfl | simp) HISZ.out hnb
        have B9 := N9.2
        replace OB := ownsRow_later OB B9
        replace OC := ownsRow_later OC B9
        replace OL := ownsRow_later OL B9
        replace OE := ownsRow_later OE B9
        have OI := N9.1
        replace BW := BW.trans (B9.mono BW.size)
        clear B9 N9
        refine hK.out _ _ trivial (fun hHeld => ?_)
        clear hK
        refine wpAnyH_take (i := 15) (oi := _) (v := ?_) rfl (by kernel_rfl) (by kernel_rfl) (by kernel_rfl) (fun _ _ _ h => h) (Or.inl ⟨by rfl, ?_⟩) (by assumption) ?_
        rotate_left
        · intro w hSw
          (try dsimp only at hSw)
          go_simp
          all_goals with_reducible rfl
        simp only [Act.put, List.setIfInBounds_toArray] --TAKE 25
        refine wpAnyH_ready (rs := [16]) (by kernel_rfl) (by simp) ?_
        refine AllReadyH.cons (o := _) rfl (fun K hK => ?_) AllReadyH.nil
        go_simp
        refine hK.out _ _ trivial (fun hHeld => ?_)
        clear hK
        refine wpAnyH_ready (rs := [17]) (by kernel_rfl) (by simp) ?_
        refine AllReadyH.cons (o := _) rfl (fun K hK => ?_) AllReadyH.nil
        go_simp
        refine hK.out _ _ trivial (fun hHeld => ?_)
        clear hK
        refine wpAnyH_done (by kernel_rfl) ?_ _
        have HM := hide (openK_meet (s := we.heap.size + 1) BW (by first | rfl | simp) OC (by rw [← HBA.out]; exact OB) (by rw [← HIA.out]; exact OI) OL OE P1.out P2.out P3 E1.out E2.out)
        clear BW OC OB OI OL OE
        go_wp2_with fail
        go_meet
        case rel => exact ⟨_, _, _, _, _, _, _, _, _, _, _, _, rfl, HM⟩
      refine AllReadyH.cons (o := _) rfl (fun K hK => ?_) AllReadyH.nil
      go_simp
      have N9 := made_ownN (e := 3) (s := W.heap.size + 1) BW (by first | rfl | simp) HISZ.out hnb
      have B9 := N9.2
      replace OB := ownsRow_later OB B9
      have OI := N9.1
      replace BW := BW.trans (B9.mono BW.size)
      clear B9 N9
      refine hK.out _ _ trivial (fun hHeld => ?_)
      clear hK
      refine wpAnyH_ready (rs := [1]) (by kernel_rfl) (by simp) ?_
      refine AllReadyH.cons (o := _) rfl (fun K hK => ?_) AllReadyH.nil
      go_simp
      refine (HC.out _ BW).mono ?_
      rintro _ wc ⟨pk, ck, rfl, OC, B9⟩
      replace OC := ownsRow_base OC BW.size
      replace OB := ownsRow_later OB B9
      replace OI := ownsRow_later OI B9
      replace BW := BW.trans (B9.mono BW.size)
      clear B9
      go_wp2_with fail
      refine hK.out _ _ trivial (fun hHeld => ?_)
      clear hK
      refine wpAnyH_ready (rs := [10]) (by kernel_rfl) (by simp) ?_
      refine AllReadyH.cons (o := _) rfl (fun K hK => ?_) AllReadyH.nil
      go_simp
      refine (HP0.out _).mono ?_
      rintro _ wp ⟨gl, cl, H, KK, rfl, P1, P2, P3, OL, B9⟩
      replace OL := ownsRow_base OL BW.size
      replace P1 := hide P1
      replace P2 := hide P2
      replace OB := ownsRow_later OB B9
      replace OI := ownsRow_later OI B9
      replace OC := ownsRow_later OC B9
      replace BW := BW.trans (B9.mono BW.size)
      clear B9
      go_wp2_with fail
      refine hK.out _ _ trivial (fun hHeld => ?_)
      clear hK
      refine wpAnyH_ready (rs := [14]) (by kernel_rfl) (by simp) ?_
      refine AllReadyH.cons (o := _) rfl (fun K hK => ?_) AllReadyH.nil
      go_simp
      refine (HE.out _ BW).mono ?_
      rintro _ we ⟨ge, m, es, rfl, E1, E2, OE, B9⟩
      replace OE := ownsRow_base OE BW.size
      replace E1 := hide E1
      replace E2 := hide E2
      replace OB := ownsRow_later OB B9
      replace OI := ownsRow_later OI B9
      replace OC := ownsRow_later OC B9
      replace OL := ownsRow_later OL B9
      replace BW := BW.trans (B9.mono BW.size)
      clear B9
      go_wp2_with fail
      refine hK.out _ _ trivial (fun hHeld => ?_)
      clear hK
      refine wpAnyH_take (i := 15) (oi := _) (v := ?_) rfl (by kernel_rfl) (by kernel_rfl) (by kernel_rfl) (fun _ _ _ h => h) (Or.inl ⟨by rfl, ?_⟩) (by assumption) ?_
      rotate_left
      · intro w hSw
        (try dsimp only at hSw)
        go_simp
        all_goals with_reducible rfl
      simp only [Act.put, List.setIfInBounds_toArray] --TAKE 26
      refine wpAnyH_ready (rs := [16]) (by kernel_rfl) (by simp) ?_
      refine AllReadyH.cons (o := _) rfl (fun K hK => ?_) AllReadyH.nil
      go_simp
      refine hK.out _ _ trivial (fun hHeld => ?_)
      clear hK
      refine wpAnyH_ready (rs := [17]) (by kernel_rfl) (by simp) ?_
      refine AllReadyH.cons (o := _) rfl (fun K hK => ?_) AllReadyH.nil
      go_simp
      refine hK.out _ _ trivial (fun hHeld => ?_)
      clear hK
      refine wpAnyH_done (by kernel_rfl) ?_ _
      have HM := hide (openK_meet (s := we.heap.size) BW (by first | rfl | simp) OC (by rw [← HBA.out]; exact OB) (by rw [← HIA.out]; exact OI) OL OE P1.out P2.out P3 E1.out E2.out)
      clear BW OC OB OI OL OE
      go_wp2_with fail
      go_meet
      case rel => exact ⟨_, _, _, _, _, _, _, _, _, _, _, _, rfl, HM⟩
    refine AllReadyH.cons (o := _) rfl (fun K hK => ?_) AllReadyH.nil
    go_simp
    have N9 := made_ownN (e := 3) (s := W.heap.size) BW (by first | rfl | simp) HISZ.out hnb
    have B9 := N9.2
    have OI := N9.1
    replace BW := BW.trans (B9.mono BW.size)
    clear B9 N9
    refine hK.out _ _ trivial (fun hHeld => ?_)
    clear hK
    refine wpAnyH_ready (rs := [1, 4]) (by kernel_rfl) (by simp) ?_
    refine AllReadyH.cons (o := _) rfl (fun K hK => ?_) ?_
    · go_simp
      refine (HC.out _ BW).mono ?_
      rintro _ wc ⟨pk, ck, rfl, OC, B9⟩
      replace OC := ownsRow_base OC BW.size
      replace OI := ownsRow_later OI B9
      replace BW := BW.trans (B9.mono BW.size)
      clear B9
      go_wp2_with fail
      refine hK.out _ _ trivial (fun hHeld => ?_)
      clear hK
      refine wpAnyH_ready (rs := [4, 10]) (by kernel_rfl) (by simp) ?_
      refine AllReadyH.cons (o := _) rfl (fun K hK => ?_) ?_
      · go_simp
        have N9 := made_ownN (e := 4) (s := wc.heap.size) BW (by first | rfl | simp) HBSZ.out hnb
        have B9 := N9.2
        replace OI := ownsRow_later OI B9
        replace OC := ownsRow_later OC B9
        have OB := N9.1
        replace BW := BW.trans (B9.mono BW.size)
        clear B9 N9
        refine hK.out _ _ trivial (fun hHeld => ?_)
        clear hK
        refine wpAnyH_ready (rs := [10]) (by kernel_rfl) (by simp) ?_
        refine AllReadyH.cons (o := _) rfl (fun K hK => ?_) AllReadyH.nil
        go_simp
        refine (HP0.out _).mono ?_
        rintro _ wp ⟨gl, cl, H, KK, rfl, P1, P2, P3, OL, B9⟩
        replace OL := ownsRow_base OL BW.size
        replace P1 := hide P1
        replace P2 := hide P2
        replace OI := ownsRow_later OI B9
        replace OC := ownsRow_later OC B9
        replace OB := ownsRow_later OB B9
        replace BW := BW.trans (B9.mono BW.size)
        clear B9
        go_wp2_with fail
        refine hK.out _ _ trivial (fun hHeld => ?_)
        clear hK
        refine wpAnyH_ready (rs := [14]) (by kernel_rfl) (by simp) ?_
        refine AllReadyH.cons (o := _) rfl (fun K hK => ?_) AllReadyH.nil
        go_simp
        refine (HE.out _ BW).mono ?_
        rintro _ we ⟨ge, m, es, rfl, E1, E2, OE, B9⟩
        replace OE := ownsRow_base OE BW.size
        replace E1 := hide E1
        replace E2 := hide E2
        replace OI := ownsRow_later OI B9
        replace OC := ownsRow_later OC B9
        replace OB := ownsRow_later OB B9
        replace OL := ownsRow_later OL B9
        replace BW := BW.trans (B9.mono BW.size)
        clear B9
        go_wp2_with fail
        refine hK.out _ _ trivial (fun hHeld => ?_)
        clear hK
        refine wpAnyH_take (i := 15) (oi := _) (v := ?_) rfl (by kernel_rfl) (by kernel_rfl) (by kernel_rfl) (fun _ _ _ h => h) (Or.inl ⟨by rfl, ?_⟩) (by assumption) ?_
        rotate_left
        · intro w hSw
          (try dsimp only at hSw)
          go_simp
          all_goals with_reducible rfl
        simp only [Act.put, List.setIfInBounds_toArray] --TAKE 27
        refine wpAnyH_ready (rs := [16]) (by kernel_rfl) (by simp) ?_
        refine AllReadyH.cons (o := _) rfl (fun K hK => ?_) AllReadyH.nil
        go_simp
        refine hK.out _ _ trivial (fun hHeld => ?_)
        clear hK
        refine wpAnyH_ready (rs := [17]) (by kernel_rfl) (by simp) ?_
        refine AllReadyH.cons (o := _) rfl (fun K hK => ?_) AllReadyH.nil
        go_simp
        refine hK.out _ _ trivial (fun hHeld => ?_)
        clear hK
        refine wpAnyH_done (by kernel_rfl) ?_ _
        have HM := hide (openK_meet (s := we.heap.size) BW (by first | rfl | simp) OC (by rw [← HBA.out]; exact OB) (by rw [← HIA.out]; exact OI) OL OE P1.out P2.out P3 E1.out E2.out)
        clear BW OC OB OI OL OE
        go_wp2_with fail
        go_meet
        case rel => exact ⟨_, _, _, _, _, _, _, _, _, _, _, _, rfl, HM⟩
      refine AllReadyH.cons (o := _) rfl (fun K hK => ?_) AllReadyH.nil
      go_simp
      refine (HP0.out _).mono ?_
      rintro _ wp ⟨gl, cl, H, KK, rfl, P1, P2, P3, OL, B9⟩
      replace OL := ownsRow_base OL BW.size
      replace P1 := hide P1
      replace P2 := hide P2
      replace OI := ownsRow_later OI B9
      replace OC := ownsRow_later OC B9
      replace BW := BW.trans (B9.mono BW.size)
      clear B9
      go_wp2_with fail
      refine hK.out _ _ trivial (fun hHeld => ?_)
      clear hK
      refine wpAnyH_ready (rs := [4, 14]) (by kernel_rfl) (by simp) ?_
      refine AllReadyH.cons (o := _) rfl (fun K hK => ?_) ?_
      · go_simp
        have N9 := made_ownN (e := 4) (s := wp.heap.size) BW (by first | rfl | simp) HBSZ.out hnb
        have B9 := N9.2
        replace OI := ownsRow_later OI B9
        replace OC := ownsRow_later OC B9
        replace OL := ownsRow_later OL B9
        have OB := N9.1
        replace BW := BW.trans (B9.mono BW.size)
        clear B9 N9
        refine hK.out _ _ trivial (fun hHeld => ?_)
        clear hK
        refine wpAnyH_ready (rs := [14]) (by kernel_rfl) (by simp) ?_
        refine AllReadyH.cons (o := _) rfl (fun K hK => ?_) AllReadyH.nil
        go_simp
        refine (HE.out _ BW).mono ?_
        rintro _ we ⟨ge, m, es, rfl, E1, E2, OE, B9⟩
        replace OE := ownsRow_base OE BW.size
        replace E1 := hide E1
        replace E2 := hide E2
        replace OI := ownsRow_later OI B9
        replace OC := ownsRow_later OC B9
        replace OL := ownsRow_later OL B9
        replace OB := ownsRow_later OB B9
        replace BW := BW.trans (B9.mono BW.size)
        clear B9
        go_wp2_with fail
        refine hK.out _ _ trivial (fun hHeld => ?_)
        clear hK
        refine wpAnyH_take (i := 15) (oi := _) (v := ?_) rfl (by kernel_rfl) (by kernel_rfl) (by kernel_rfl) (fun _ _ _ h => h) (Or.inl ⟨by rfl, ?_⟩) (by assumption) ?_
        rotate_left
        · intro w hSw
          (try dsimp only at hSw)
          go_simp
          all_goals with_reducible rfl
        simp only [Act.put, List.setIfInBounds_toArray] --TAKE 28
        refine wpAnyH_ready (rs := [16]) (by kernel_rfl) (by simp) ?_
        refine AllReadyH.cons (o := _) rfl (fun K hK => ?_) AllReadyH.nil
        go_simp
        refine hK.out _ _ trivial (fun hHeld => ?_)
        clear hK
        refine wpAnyH_ready (rs := [17]) (by kernel_rfl) (by simp) ?_
        refine AllReadyH.cons (o := _) rfl (fun K hK => ?_) AllReadyH.nil
        go_simp
        refine hK.out _ _ trivial (fun hHeld => ?_)
        clear hK
        refine wpAnyH_done (by kernel_rfl) ?_ _
        have HM := hide (openK_meet (s := we.heap.size) BW (by first | rfl | simp) OC (by rw [← HBA.out]; exact OB) (by rw [← HIA.out]; exact OI) OL OE P1.out P2.out P3 E1.out E2.out)
        clear BW OC OB OI OL OE
        go_wp2_with fail
        go_meet
        case rel => exact ⟨_, _, _, _, _, _, _, _, _, _, _, _, rfl, HM⟩
      refine AllReadyH.cons (o := _) rfl (fun K hK => ?_) AllReadyH.nil
      go_simp
      refine (HE.out _ BW).mono ?_
      rintro _ we ⟨ge, m, es, rfl, E1, E2, OE, B9⟩
      replace OE := ownsRow_base OE BW.size
      replace E1 := hide E1
      replace E2 := hide E2
      replace OI := ownsRow_later OI B9
      replace OC := ownsRow_later OC B9
      replace OL := ownsRow_later OL B9
      replace BW := BW.trans (B9.mono BW.size)
      clear B9
      go_wp2_with fail
      refine hK.out _ _ trivial (fun hHeld => ?_)
      clear hK
      refine wpAnyH_ready (rs := [4]) (by kernel_rfl) (by simp) ?_
      refine AllReadyH.cons (o := _) rfl (fun K hK => ?_) AllReadyH.nil
      go_simp
      have N9 := made_ownN (e := 4) (s := we.heap.size) BW (by first | rfl | simp) HBSZ.out hnb
      have B9 := N9.2
      replace OI := ownsRow_later OI B9
      replace OC := ownsRow_later OC B9
      replace OL := ownsRow_later OL B9
      replace OE := ownsRow_later OE B9
      have OB := N9.1
      replace BW := BW.trans (B9.mono BW.size)
      clear B9 N9
      refine hK.out _ _ trivial (fun hHeld => ?_)
      clear hK
      refine wpAnyH_take (i := 15) (oi := _) (v := ?_) rfl (by kernel_rfl) (by kernel_rfl) (by kernel_rfl) (fun _ _ _ h => h) (Or.inl ⟨by rfl, ?_⟩) (by assumption) ?_
      rotate_left
      · intro w hSw
        (try dsimp only at hSw)
        go_simp
        all_goals with_reducible rfl
      simp only [Act.put, List.setIfInBounds_toArray] --TAKE 29
      refine wpAnyH_ready (rs := [16]) (by kernel_rfl) (by simp) ?_
      refine AllReadyH.cons (o := _) rfl (fun K hK => ?_) AllReadyH.nil
      go_simp
      refine hK.out _ _ trivial (fun hHeld => ?_)
      clear hK
      refine wpAnyH_ready (rs := [17]) (by kernel_rfl) (by simp) ?_
      refine AllReadyH.cons (o := _) rfl (fun K hK => ?_) AllReadyH.nil
      go_simp
      refine hK.out _ _ trivial (fun hHeld => ?_)
      clear hK
      refine wpAnyH_done (by kernel_rfl) ?_ _
      have HM := hide (openK_meet (s := we.heap.size + 1) BW (by first | rfl | simp) OC (by rw [← HBA.out]; exact OB) (by rw [← HIA.out]; exact OI) OL OE P1.out P2.out P3 E1.out E2.out)
      clear BW OC OB OI OL OE
      go_wp2_with fail
      go_meet
      case rel => exact ⟨_, _, _, _, _, _, _, _, _, _, _, _, rfl, HM⟩
    refine AllReadyH.cons (o := _) rfl (fun K hK => ?_) AllReadyH.nil
    go_simp
    have N9 := made_ownN (e := 4) (s := W.heap.size + 1) BW (by first | rfl | simp) HBSZ.out hnb
    have B9 := N9.2
    replace OI := ownsRow_later OI B9
    have OB := N9.1
    replace BW := BW.trans (B9.mono BW.size)
    clear B9 N9
    refine hK.out _ _ trivial (fun hHeld => ?_)
    clear hK
    refine wpAnyH_ready (rs := [1]) (by kernel_rfl) (by simp) ?_
    refine AllReadyH.cons (o := _) rfl (fun K hK => ?_) AllReadyH.nil
    go_simp
    refine (HC.out _ BW).mono ?_
    rintro _ wc ⟨pk, ck, rfl, OC, B9⟩
    replace OC := ownsRow_base OC BW.size
    replace OI := ownsRow_later OI B9
    replace OB := ownsRow_later OB B9
    replace BW := BW.trans (B9.mono BW.size)
    clear B9
    go_wp2_with fail
    refine hK.out _ _ trivial (fun hHeld => ?_)
    clear hK
    refine wpAnyH_ready (rs := [10]) (by kernel_rfl) (by simp) ?_
    refine AllReadyH.cons (o := _) rfl (fun K hK => ?_) AllReadyH.nil
    go_simp
    refine (HP0.out _).mono ?_
    rintro _ wp ⟨gl, cl, H, KK, rfl, P1, P2, P3, OL, B9⟩
    replace OL := ownsRow_base OL BW.size
    replace P1 := hide P1
    replace P2 := hide P2
    replace OI := ownsRow_later OI B9
    replace OB := ownsRow_later OB B9
    replace OC := ownsRow_later OC B9
    replace BW := BW.trans (B9.mono BW.size)
    clear B9
    go_wp2_with fail
    refine hK.out _ _ trivial (fun hHeld => ?_)
    clear hK
    refine wpAnyH_ready (rs := [14]) (by kernel_rfl) (by simp) ?_
    refine AllReadyH.cons (o := _) rfl (fun K hK => ?_) AllReadyH.nil
    go_simp
    refine (HE.out _ BW).mono ?_
    rintro _ we ⟨ge, m, es, rfl, E1, E2, OE, B9⟩
    replace OE := ownsRow_base OE BW.size
    replace E1 := hide E1
    replace E2 := hide E2
    replace OI := ownsRow_later OI B9
    replace OB := ownsRow_later OB B9
    replace OC := ownsRow_later OC B9
    replace OL := ownsRow_later OL B9
    replace BW := BW.trans (B9.mono BW.size)
    clear B9
    go_wp2_with fail
    refine hK.out _ _ trivial (fun hHeld => ?_)
    clear hK
    refine wpAnyH_take (i := 15) (oi := _) (v := ?_) rfl (by kernel_rfl) (by kernel_rfl) (by kernel_rfl) (fun _ _ _ h => h) (Or.inl ⟨by rfl, ?_⟩) (by assumption) ?_
    rotate_left
    · intro w hSw
      (try dsimp only at hSw)
      go_simp
      all_goals with_reducible rfl
    simp only [Act.put, List.setIfInBounds_toArray] --TAKE 30
    refine wpAnyH_ready (rs := [16]) (by kernel_rfl) (by simp) ?_
    refine AllReadyH.cons (o := _) rfl (fun K hK => ?_) AllReadyH.nil
    go_simp
    refine hK.out _ _ trivial (fun hHeld => ?_)
    clear hK
    refine wpAnyH_ready (rs := [17]) (by kernel_rfl) (by simp) ?_
    refine AllReadyH.cons (o := _) rfl (fun K hK => ?_) AllReadyH.nil
    go_simp
    refine hK.out _ _ trivial (fun hHeld => ?_)
    clear hK
    refine wpAnyH_done (by kernel_rfl) ?_ _
    have HM := hide (openK_meet (s := we.heap.size) BW (by first | rfl | simp) OC (by rw [← HBA.out]; exact OB) (by rw [← HIA.out]; exact OI) OL OE P1.out P2.out P3 E1.out E2.out)
    clear BW OC OB OI OL OE
    go_wp2_with fail
    go_meet
    case rel => exact ⟨_, _, _, _, _, _, _, _, _, _, _, _, rfl, HM⟩
  case rest =>
  obtain ⟨lb, pk, ck, gb, gi, gl, cl, H, K, ge, m, es, rfl, HO⟩ := hcut
  rename World => w2
  have hR := HO.out
  have z4 : w2.cell? ⟨lb, 4, none⟩ = some (.slice (some ⟨ge, 0, none⟩) m m) := by simp [World.cell?, hR.box]
  have hm : m ≤ 1048576 := by
    have h1 := hR.len
    rw [hR.ents, List.length_map] at h1
    have h2 := keysC_len (rs.map RC.key)
    rw [List.length_map] at h2
    have h3 := HNN.out
    omega
  have HP := hide (newPeaks_any (W := w2) (m := m) hm)
  clear hR HE HC HP0 mb mi
  go_wp2_with fail
  refine HP.out.mono ?_
  rintro _ w3 ⟨gf, cf, H2, K2, rfl, Q1, Q2, Q3, OF, B3⟩
  have hbx := below_box B3 HO.out.box
  have z5 : w3.cell? ⟨lb, 5, none⟩ = some (.slice none 0 0) := by simp [World.cell?, hbx]
  have f5 : w3.frozen? ⟨lb, 5, none⟩ = false := by simp [World.frozen?, hbx]
  have HL := hide (openK_end HN.out HO.out B3 Q1 OF)
  have HSt := hide (openK_start (K2 := K2) HN.out HO.out Q2)
  have HQ3 := hide Q3
  have HHF := hide HO.out.few
  have wr0 : IntKind.i64.wrap ((n : Int) - 1) = (n : Int) - 1 := by rw [IntKind.wrap_i64]; omega
  obtain ⟨A, hA⟩ : ∃ A : LA, (⟨pk, ck, some ⟨gb, 0, none⟩, n, some ⟨gi, 0, none⟩, n, gl, cl, some ⟨ge, 0, none⟩, m, gf, cf⟩ : LA) = A := ⟨_, rfl⟩
  have HAE : Hid (A.pe = some ⟨ge, 0, none⟩ ∧ A.pt = some ⟨gi, 0, none⟩) := hide (by rw [← hA]; exact ⟨rfl, rfl⟩)
  obtain ⟨L0, hL0⟩ : ∃ L0 : LG, (⟨ks, List.replicate n false, List.replicate n 0, List.replicate (2 * H) lowN, H, K, es, List.replicate (2 * H2) lowN, H2, K2⟩ : LG) = L0 := ⟨_, rfl⟩
  have HLL : Hid (L0.lh ≤ 2097152 ∧ L0.fh ≤ 2097152) := hide (by rw [← hL0]; exact ⟨HHF.out, HQ3.out⟩)
  rw [hA, hL0] at HL
  rw [hL0] at HSt
  obtain ⟨w4, hw4⟩ : ∃ w4, w4 = w3.setCell ⟨lb, 5, none⟩ (.slice (some ⟨gf, 0, none⟩) (2 * H2) cf) := ⟨_, rfl⟩
  rw [← hw4] at HL
  clear Q1 Q2 Q3 OF B3 hbx HP z4 hA hL0 HO HHF HQ3
  go_upto_region 3 with fail
  rw [← hw4]
  clear hw4 z5 f5
  go_wp2_with fail
  go_loopw [6] (fun s wq => ∃ (j : Nat) (L : LG), j ≤ n ∧ s = .int .i64 ((j : Int) - 1) ∧ Hid (LRep wq W.heap.size lb A L) ∧ Hid (OpI ks (keysC (rs.map RC.key)) j L) ∧ Hid (L.lh ≤ 2097152 ∧ L.fh ≤ 2097152) ∧ Hid (Below W.heap.size W wq)) (fun s _ => (intOf s + 1).toNat)
  case atStart => exact ⟨n, L0, Nat.le_refl _, rfl, hide HL.out.1, HSt, HLL, hide HL.out.2⟩
  case round =>
    obtain ⟨j, L, hj, rfl, HR, HI, HB2, HB⟩ := hrel
    rename World => wq
    clear HL HSt HLL wr0
    by_cases hj0 : 0 < j
    · obtain ⟨x, rfl⟩ : ∃ x, j = x + 1 := ⟨j - 1, by omega⟩
      have ex : ((x + 1 : Nat) : Int) - 1 = (x : Int) := by omega
      rw [ex]
      clear ex
      have hxn : x < ks.length := by rw [HN.out]; omega
      have hxn2 : x < n := by omega
      obtain ⟨kg, ko, hkp, hc⟩ := (KRow.later HKR.out HB.out).2.2.2 x hxn
      subst hkp
      obtain ⟨y, hy⟩ : ∃ y, ks[x]! = y := ⟨_, rfl⟩
      rw [hy] at hc
      obtain ⟨ky, kcn, ka⟩ := y
      have d0 : wq.cell? ⟨kg, ko + x * 3, none⟩ = some (.int .i64 ky) := hc 0 (by decide)
      have HY := hide hy
      obtain ⟨l2, hl2⟩ : ∃ l, 2 * L.lh = l := ⟨_, rfl⟩
      have hbox := HR.out.box
      have z3 : wq.cell? ⟨lb, 3, none⟩ = some (.slice (some ⟨A.gl, 0, none⟩) l2 A.cl) := by rw [← hl2]; simp [World.cell?, hbox]
      have hRd := HR.out.later (Below.refl _ wq).drew
      have hset := set_any (v := ky) (pl := x) hRd.left hRd.pl (by have := HI.out.lf; omega) (by have := HB2.out.1; omega)
      rw [hl2] at hset
      have HSET := hide hset
      have HRD := hide hRd
      have HL2 := hide hl2
      have hdx : decide ((x : Int) ≥ 0) = true := decide_eq_true (by omega)
      clear hc hy hbox hRd hset hl2
      have HIK : Hid (∀ X, Below W.heap.size W X → X.cell? ⟨kg, ko + x * 3, none⟩ = some (.int .i64 ky)) := hide (fun X hX => by
        obtain ⟨g9, o9, e9, h9⟩ := (KRow.later HKR.out hX).2.2.2 x hxn
        simp only [Option.some.injEq, Addr.mk.injEq, and_true] at e9
        obtain ⟨rfl, rfl⟩ := e9
        have h8 := h9 0 (by decide)
        rw [HY.out] at h8
        exact h8)
      have HGL : Hid (W.heap.size ≤ A.gl) := hide (HR.out.left.lt A.gl rfl).1
      have hRise : Rises L.es := fun i j hij hj => by
        have hk9 := (keysC_facts (rs.map RC.key)).1
        rw [← HI.out.keys, List.pairwise_map, List.pairwise_iff_getElem] at hk9
        have := hk9 i j (by omega) hj hij
        rw [getElem!_pos _ i (by omega), getElem!_pos _ j hj]
        exact this
      have HRS := hide hRise
      clear hRise
      go_upto_region 6 with fail
      go_region_with (go_at_call 25; refine HSET.out.mono ?_; rintro _ w5 ⟨v5, ps, rfl, o5, p5, l5, n5⟩)
      all_goals
        have hR5 := HRD.out.newLeft n5 (by rw [HL2.out]; exact o5) p5
        have hB5 : Below W.heap.size W w5 := HB.out.drew.trans (n5.below HB.out.size (fun i e => by have e' : i = A.gl := e; rw [e']; exact HGL.out))
        have HLV : Hid (Leaves ps L.left L.lh x ky) := hide l5
        have d5 := HIK.out w5 hB5
        obtain ⟨m5, hm5⟩ : ∃ m5, L.es.length = m5 := ⟨_, rfl⟩
        have hbx5 := hR5.box
        simp only [HAE.out.1] at hbx5
        have z4 : w5.cell? ⟨lb, 4, none⟩ = some (.slice (some ⟨ge, 0, none⟩) m5 A.ce) := by rw [← hm5]; simp [World.cell?, hbx5]
        have hes5 := hR5.es
        simp only [HAE.out.1] at hes5
        rw [hm5] at hes5
        have HPL : Hid (∀ X, Below w5.heap.size w5 X → Calls Try.prog 26 #[.slice (some ⟨ge, 0, none⟩) m5 A.ce, .int .i64 ky] X fun e w' => ∃ i fd, e = .returned (.tuple #[.int .i64 ((i : Nat) : Int), .bool fd]) ∧ Place L.es ky i ∧ fd = decide (i < m5 ∧ (L.es[i]!).key = ky) ∧ Below X.heap.size X w') := hide (fun X hX => place_any (NRow.below (NRow.of_own hm5 hes5) hX) hm5 HRS.out (by have := HI.out.ff; have := HB2.out.2; omega))
        have HR5 := hide hR5
        have HB5 := hide hB5
        have HM5 := hide hm5
        clear o5 p5 l5 n5 hR5 hB5 hbx5 hes5 hm5 HSET d0 z3
        go_upto_region 7 with fail
        go_region_with (go_at_call 26; refine (HPL.out _ ?_).mono ?_; · exact (Below.refl _ w5).drew
                        rintro _ w6 ⟨i6, fd, rfl, hpl, hfd, b6⟩; have HFD := hide hfd; clear hfd)
        all_goals
          have b6' : Below w5.heap.size w5 w6 := ⟨b6.os, b6.tape, b6.output, b6.size, b6.block⟩
          have HR6 := hide (HR5.out.later b6')
          have HB6 : Hid (Below W.heap.size W w6) := hide (HB5.out.trans (b6'.mono HB5.out.size))
          have HPP := hide hpl
          clear hpl b6 b6' HPL z4 d5
          by_cases hit : i6 < m5 ∧ (L.es[i6]!).key = ky
          · have hfd := HFD.out
            rw [decide_eq_true hit] at hfd
            clear HFD
            subst hfd
            have hi6 : i6 < L.es.length := by rw [HM5.out]; exact hit.1
            have hi6m : i6 < m5 := hit.1
            obtain ⟨hf, hI⟩ := HI.out.hit hxn HRI.out (keysC_facts _).1 (by rw [HY.out]; exact HLV.out) hi6 (by rw [HY.out]; exact hit.2)
            rw [HN.out] at hf
            have hbx := HR6.out.box
            simp only [HAE.out.1, HAE.out.2] at hbx
            have hlo : L.old.length = n := by rw [HI.out.old]; exact HN.out
            have z2 : w6.cell? ⟨lb, 2, none⟩ = some (.slice (some ⟨gi, 0, none⟩) n A.ct) := by rw [← hlo]; simp [World.cell?, hbx]
            have z4 : w6.cell? ⟨lb, 4, none⟩ = some (.slice (some ⟨ge, 0, none⟩) m5 A.ce) := by rw [← HM5.out]; simp [World.cell?, hbx]
            have hes := HR6.out.es
            have htw := HR6.out.tw
            simp only [HAE.out.1] at hes
            simp only [HAE.out.2] at htw
            rw [HM5.out] at hes
            rw [hlo] at htw
            obtain ⟨e, he⟩ : ∃ e, L.es[i6]! = e := ⟨_, rfl⟩
            obtain ⟨c0, _, _, _, _, hfz⟩ := es_cells hes HM5.out hit.1 he
            have hfe : e.first = (n : Int) := by rw [← he]; exact hf
            rw [hfe] at c0
            have g0 := hfz (i6 * 5)
            have htl := HI.out.tl
            obtain ⟨tv, htv⟩ : ∃ v, w6.cell? ⟨gi, x, none⟩ = some v := ⟨_, own_cells1 htw (by rw [List.getElem?_map, List.getElem?_eq_getElem (by rw [htl]; exact hxn)]; rfl)⟩
            have t1 : w6.frozen? ⟨gi, x, none⟩ = false := htw.frozenAt _
            obtain ⟨_, _, ef, i3, i4⟩ := own_form hes
            simp only [Value.slice.injEq, true_and] at ef
            obtain ⟨rfl, rfl⟩ := ef
            obtain ⟨_, _, ef, i5, i6'⟩ := own_form htw
            simp only [Value.slice.injEq, true_and] at ef
            obtain ⟨rfl, rfl⟩ := ef
            have hst := (htw.stored x (.int .i64 (n : Int))).1
            have hon1 := Only.set (F := (· = gi)) w6 gi x (.int .i64 (n : Int)) rfl
            have hR7 := HR6.out.newTw (ts := L.tw.set x (n : Int)) HAE.out.2 hon1 (by rw [HAE.out.2]; simp only; rw [hlo, List.map_set]; exact hst)
            obtain ⟨w7, hw7⟩ : ∃ w7, w7 = w6.setCell ⟨gi, x, none⟩ (.int .i64 (n : Int)) := ⟨_, rfl⟩
            rw [← hw7] at hR7 hon1
            have hes7 := hR7.es
            simp only [HAE.out.1] at hes7
            rw [HM5.out] at hes7
            obtain ⟨c7, _, _, _, _, hfz7⟩ := es_cells hes7 HM5.out hit.1 he
            rw [hfe] at c7
            have g7 := hfz7 (i6 * 5)
            have hbx7 := hR7.box
            simp only [HAE.out.1] at hbx7
            have z7 : w7.cell? ⟨lb, 4, none⟩ = some (.slice (some ⟨ge, 0, none⟩) m5 A.ce) := by rw [← HM5.out]; simp [World.cell?, hbx7]
            have hst8 := EN.storedFirst hes7 (by rw [HM5.out]; exact hit.1) he (x : Int)
            have hon2 := Only.set (F := (· = ge)) w7 ge (i6 * 5) (.int .i64 (x : Int)) rfl
            have HR8 := hide (hR7.newEs (es := L.es.set i6 ⟨(x : Int), e.key, e.cnt, e.acc, e.gap⟩) HAE.out.1 (List.length_set ..) hon2 (by rw [HAE.out.1]; simp only; rw [HM5.out]; exact hst8))
            have HI9 : Hid (OpI ks (keysC (rs.map RC.key)) x { L with left := ps, tw := L.tw.set x (n : Int), es := L.es.set i6 ⟨(x : Int), e.key, e.cnt, e.acc, e.gap⟩ }) := hide (by
              rw [he, HN.out] at hI
              exact hI)
            have hgiW : W.heap.size ≤ gi := (htw.lt gi rfl).1
            have hgeW : W.heap.size ≤ ge := (hes.lt ge rfl).1
            have HB8 : Hid (Below W.heap.size W (w7.setCell ⟨ge, i6 * 5, none⟩ (.int .i64 (x : Int)))) := hide ((HB6.out.trans (hon1.below HB6.out.size (fun i e => by have e' : i = gi := e; rw [e']; exact hgiW))).setCell (p := ⟨ge, i6 * 5, none⟩) hgeW _)
            have HW7 := hide hw7
            clear hst hon1 hR7 hes7 hfz7 hbx7 hst8 hon2 hI hes htw hfz hbx hf hfe he HPP HRS hit htl hgiW hgeW
            go_upto_region 9 with fail
            go_region
            all_goals
              rw [← hw7]
              have wr1 : IntKind.i64.wrap ((x : Int) - 1) = (x : Int) - 1 := by rw [IntKind.wrap_i64]; omega
              clear hw7 HW7 htv t1 z2 z4 c0 g0 i3 i4 i5 i6'
              go_wp2
              first
                | exact ⟨⟨x, _, by omega, by go_num, HR8, HI9, HB2, HB8⟩, by simp [intOf]⟩
                | exact ⟨⟨x, _, by omega, by go_num, hide (HR8.out.later (Below.refl _ _).drew), HI9, HB2, hide HB8.out.drew⟩, by simp [intOf]⟩
          · have hfd := HFD.out
            rw [decide_eq_false hit] at hfd
            clear HFD
            subst hfd
            have HI9 : Hid (OpI ks (keysC (rs.map RC.key)) x { L with left := ps }) := hide (HI.out.skip hxn (by rw [HY.out]; exact HLV.out) (fun k hk e9 => by
              rw [HY.out] at e9
              have hp := HPP.out
              rcases Nat.lt_trichotomy k i6 with h9 | h9 | h9
              · have := hp.2.1 k h9
                simp only at e9
                omega
              · rw [h9] at hk e9
                exact hit ⟨by rw [← HM5.out]; exact hk, e9⟩
              · have h8 := HRS.out i6 k h9 hk
                have h7 := hp.2.2 i6 (Nat.le_refl _) (by omega)
                simp only at e9
                omega))
            clear hit HPP HRS
            have wr1 : IntKind.i64.wrap ((x : Int) - 1) = (x : Int) - 1 := by rw [IntKind.wrap_i64]; omega
            go_wp2
            exact ⟨⟨x, { L with left := ps }, by omega, by go_num, HR6, HI9, HB2, HB6⟩, by simp [intOf]⟩
    · obtain rfl : j = 0 := by omega
      have hd0 : decide (((0 : Nat) : Int) - 1 ≥ 0) = false := by decide
      go_wp2
      go_ret
      exact ⟨lb, A, L, rfl, HR.out, HI.out, HB2.out.1, HB2.out.2, ⟨ge, HAE.out.1⟩, HB.out⟩
end Go.Proofs.Ytcabfohmimglpaa
